import Derived.Test.YtefiipkfppaibaaEwTr2
import Derived.Test.YtefiipkfppaibaaEwVc1
import Derived.Test.YtefiipkfppaibaaEwS4
import Derived.Test.YtefiipkfppaibaaEwEnv
import Derived.Test.YtefiipkfppaibaaEvFast4
set_option linter.unusedVariables false
set_option linter.unusedSimpArgs false
namespace Go.Ew
open Go.Ev Go.Deep
section
variable {Z H : KH} {N M nb : Nat} {fb ob : Nat -> Nat} {aF aO : OA} {Y : Int -> Int -> Bool}
end
theorem Rws.grow {Z H:KH} {p n:Nat} {e:Ent} {R:List Rr} (h:Rws Z H p R) (hn:H n=none) (hp:n≠p):Rws (Z.new n e) (H.new n e) p R:=by
 refine (h.step (fun k e' _ q=>Le.new hn k e' q)).base (Le.new2 h.le) (new_none h.zp fun z=>hp z.symm) fun r hr k hk=>?_
 obtain ⟨e',q⟩:=(h.ok r hr).has hk
 exact new_none (h.fr r hr k hk).1 fun z=>by rw [z,hn] at q; cases q
theorem Rws.new {Z H:KH} {p n:Nat} {e:Ent} {R:List Rr} (h:Rws Z H p R) (hn:H n=none):Rws Z (H.new n e) p R:=h.step fun k e' _ q=>Le.new hn k e' q
theorem hide2 {K:KH} {a b:Nat} {e f:Ent} (ha:K a=none) (hb:(K.new a e) b=none):hideK ((K.new a e).new b f) [b,a]=K:=by
 have hba:b≠a:=fun z=>by rw [z] at hb; simp [KH.new] at hb
 funext k
 show (if k=b then none else (if k=a then none else ((K.new a e).new b f) k))=K k
 by_cases h1:k=b
 .rw [if_pos h1,h1]
  simp only [KH.new] at hb
  rw [if_neg hba] at hb
  exact hb.symm
 .rw [if_neg h1]
  by_cases h2:k=a
  .rw [if_pos h2,h2,ha]
  .rw [if_neg h2]
   simp only [KH.new]
   rw [if_neg h1,if_neg h2]
theorem back2 {K H:KH} {a b:Nat} {e f:Ent} (hb:(K.new a e) b=none):backK ((K.new a e).new b f) H [b,a]=(H.new a e).new b f:=by
 have hba:b≠a:=fun z=>by rw [z] at hb; simp [KH.new] at hb
 funext k
 show (if k=b then ((K.new a e).new b f) b else (if k=a then ((K.new a e).new b f) a else H k))=((H.new a e).new b f) k
 simp only [KH.new]
 by_cases h1:k=b
 .rw [if_pos h1,if_pos h1]; exact if_pos trivial
 .rw [if_neg h1,if_neg h1]
  by_cases h2:k=a
  .rw [if_pos h2,if_pos h2,if_neg fun z=>hba z.symm]; exact if_pos trivial
  .rw [if_neg h2,if_neg h2]
def updN (f:Nat->Nat) (m n:Nat):Nat->Nat:=fun j=>if j=m then n else f j
theorem updN_at (f:Nat->Nat) (m n:Nat):updN f m n m=n:=if_pos rfl
theorem updN_ne {f:Nat->Nat} {m n j:Nat} (h:j≠m):updN f m n j=f j:=if_neg h
theorem hdr_next (M:Nat) (f:Nat->Nat) (m n:Nat):famC (hdrC M f) m++[.slice (some ⟨n,0,none⟩) M M]=famC (hdrC M (updN f m n)) (m+1):=by
 have e:famC (hdrC M f) m=famC (hdrC M (updN f m n)) m:=fam_congr fun i hi=>by
  show [Value.slice (some ⟨f (i:Int).toNat,0,none⟩) M M]=[Value.slice (some ⟨updN f m n (i:Int).toNat,0,none⟩) M M]
  rw [updN_ne (by omega)]
 rw [e]
 unfold famC
 rw [List.range_succ,List.flatMap_append]
 congr 1
 show _=[Value.slice (some ⟨updN f m n (m:Int).toNat,0,none⟩) M M]++[]
 rw [show (m:Int).toNat=m by omega,updN_at]
 rfl
structure MadeB (Z0 Z:KH) (M m:Nat) (fb ob:Nat->Nat):Prop where
 le:Le Z0 Z
 f:∀ i,i<m->Z (fb i)=some (mkEnt (famC (bit1 fun _=>false) M) 0)/\Z0 (fb i)=none
 o:∀ i,i<m->Z (ob i)=some (mkEnt (famC (bit1 fun _=>false) (M+1)) 0)/\Z0 (ob i)=none
 ff:∀ i j,i<m->j<m->fb i=fb j->i=j
 oo:∀ i j,i<m->j<m->ob i=ob j->i=j
 fo:∀ i j,i<m->j<m->fb i≠ob j
theorem MadeB.next {Z0 Z:KH} {M m n1 n3:Nat} {fb ob:Nat->Nat} (h:MadeB Z0 Z M m fb ob) (h1:Z n1=none) (h3:(Z.new n1 (mkEnt (famC (bit1 fun _=>false) M) 0)) n3=none) :
 MadeB Z0 ((Z.new n1 (mkEnt (famC (bit1 fun _=>false) M) 0)).new n3 (mkEnt (famC (bit1 fun _=>false) (M+1)) 0)) M (m+1) (updN fb m n1) (updN ob m n3):=by
 have l1:=Le.new (e:=mkEnt (famC (bit1 fun _=>false) M) 0) h1
 have l3:=Le.new (e:=mkEnt (famC (bit1 fun _=>false) (M+1)) 0) h3
 have s1:(Z.new n1 (mkEnt (famC (bit1 fun _=>false) M) 0)) n1=some (mkEnt (famC (bit1 fun _=>false) M) 0):=if_pos rfl
 have s3:((Z.new n1 (mkEnt (famC (bit1 fun _=>false) M) 0)).new n3 (mkEnt (famC (bit1 fun _=>false) (M+1)) 0)) n3=some (mkEnt (famC (bit1 fun _=>false) (M+1)) 0):=if_pos rfl
 have h3':Z n3=none:=l1.none h3
 have hne:n1≠n3:=fun z=>by rw [<- z,s1] at h3; cases h3
 have fne:∀ i,i<m->fb i≠n1/\fb i≠n3:=fun i hi=>⟨fun z=>(by have:=(h.f i hi).1; rw [z,h1] at this; cases this),fun z=>(by have:=(h.f i hi).1; rw [z,h3'] at this; cases this)⟩
 have one:∀ i,i<m->ob i≠n1/\ob i≠n3:=fun i hi=>⟨fun z=>(by have:=(h.o i hi).1; rw [z,h1] at this; cases this),fun z=>(by have:=(h.o i hi).1; rw [z,h3'] at this; cases this)⟩
 have lt:∀ {i},i<m+1->i≠m->i<m:=fun a b=>by omega
 refine ⟨h.le.trans (l1.trans l3),fun i hi=>?_,fun i hi=>?_,fun i j hi hj e=>?_,fun i j hi hj e=>?_,fun i j hi hj e=>?_⟩
 .by_cases z:i=m
  .rw [z,updN_at]; exact ⟨l3 _ _ s1,h.le.none h1⟩
  .rw [updN_ne z]; exact ⟨l3 _ _ (l1 _ _ (h.f i (lt hi z)).1),(h.f i (lt hi z)).2⟩
 .by_cases z:i=m
  .rw [z,updN_at]; exact ⟨s3,h.le.none h3'⟩
  .rw [updN_ne z]; exact ⟨l3 _ _ (l1 _ _ (h.o i (lt hi z)).1),(h.o i (lt hi z)).2⟩
 .by_cases z:i=m<;>by_cases w:j=m
  .omega
  .rw [z,updN_at,updN_ne w] at e; exact absurd e.symm (fne j (lt hj w)).1
  .rw [w,updN_at,updN_ne z] at e; exact absurd e (fne i (lt hi z)).1
  .rw [updN_ne z,updN_ne w] at e; exact h.ff i j (lt hi z) (lt hj w) e
 .by_cases z:i=m<;>by_cases w:j=m
  .omega
  .rw [z,updN_at,updN_ne w] at e; exact absurd e.symm (one j (lt hj w)).2
  .rw [w,updN_at,updN_ne z] at e; exact absurd e (one i (lt hi z)).2
  .rw [updN_ne z,updN_ne w] at e; exact h.oo i j (lt hi z) (lt hj w) e
 .by_cases z:i=m<;>by_cases w:j=m
  .rw [z,w,updN_at,updN_at] at e; exact hne e
  .rw [z,updN_at,updN_ne w] at e; exact (one j (lt hj w)).1 e.symm
  .rw [w,updN_at,updN_ne z] at e; exact (fne i (lt hi z)).2 e
  .rw [updN_ne z,updN_ne w] at e; exact h.fo i j (lt hi z) (lt hj w) e
theorem boxes {Z0 Z H:KH} {N M nb:Nat} {fb ob:Nat->Nat} (h:MadeB Z0 Z M N fb ob) (hl:Le Z H) (h0:Z0 nb=none) (h1:Z nb=none) (h2:H nb=some (mkEnt (famC (bit1 fun _=>false) N) 0)):Bxs Z0 H (ixD N) (ixN nb fb ob) (ixC N M fun _ _=>false):=by
 refine ⟨h.le.trans hl,fun i hi=>?_,fun i hi=>?_,fun i j hi hj e=>?_⟩
 .cases i with
  | n=>exact h0
  | f i=>exact (h.f i hi).2
  | o i=>exact (h.o i hi).2
 .cases i with
  | n=>exact ⟨_,h2,rfl,mk_rd⟩
  | f i=>exact ⟨_,hl _ _ (h.f i hi).1,rfl,mk_rd⟩
  | o i=>exact ⟨_,hl _ _ (h.o i hi).1,rfl,mk_rd⟩
 .have nf:∀ i,i<N->fb i≠nb:=fun i hi z=>by have:=(h.f i hi).1; rw [z,h1] at this; cases this
  have no:∀ i,i<N->ob i≠nb:=fun i hi z=>by have:=(h.o i hi).1; rw [z,h1] at this; cases this
  cases i with
  | n =>
    cases j with
    | n=>rfl
    | f j=>exact absurd (Eq.symm e) (nf j hj)
    | o j=>exact absurd (Eq.symm e) (no j hj)
  | f i =>
    cases j with
    | n=>exact absurd e (nf i hi)
    | f j=>rw [h.ff i j hi hj e]
    | o j=>exact absurd e (h.fo i j hi hj)
  | o i =>
    cases j with
    | n=>exact absurd e (no i hi)
    | f j=>exact absurd (Eq.symm e) (h.fo j i hj hi)
    | o j=>rw [h.oo i j hi hj e]
theorem snd_none (G:List Pr) (M:Nat):Snd3 G M fun _ _=>false:=by
 refine ⟨fun x q=>by simp [nlY] at q,fun x t q=>by simp [fsY] at q,fun x t q=>by simp [flY] at q⟩
end Go.Ew
namespace Go.Proofs.Ytefiipkfppaibaa
open Go.Ev Go.Ew
namespace Va
section
variable (ok : EnvOk (env Try.prog))
include ok
theorem c12 {g:Gm} {H:KH} {Q:PQ} (hg:GI H g) (hm:MayG g)
 (hq:∀ Z H' nb fb ob aF cF aO cO Y,Le H H'->RefS Z H' g.nts.length g.toks.length nb fb ob aF aO Y->IsN g.prods (nlY Y)->IsF g.prods (fsY g.toks.length Y)->IsL g.prods g.toks.length (flY g.toks.length Y)->Q (.agg #[.slice (some ⟨nb,0,none⟩) g.nts.length g.nts.length,.slice aF g.nts.length cF,.slice aO g.nts.length cO]) H') :
 Does (env Try.prog) 12 [gv g] H Q:=by
 have hT:=hm.t
 have hN:=hm.n
 refine fn12 ok ⟨⟨by omega,by omega,by omega⟩,fun nb h0=>?_⟩
 have eN:Int.toNat ((g.nts.length:Nat):Int)=g.nts.length:=by omega
 have eM:Int.toNat ((g.toks.length:Nat):Int)=g.toks.length:=by omega
 have eW:IntKind.wrap .i64 (((g.toks.length:Nat):Int)+1)=((g.toks.length+1:Nat):Int):=by rw [wrap64 (by omega) (by omega)]; omega
 have eM1:Int.toNat ((g.toks.length+1:Nat):Int)=g.toks.length+1:=by omega
 have rep:∀ n,lrep [.bool false] n=famC (bit1 fun _=>false) n:=fun n=>fam_rep (h:=bit1 fun _=>false) fun _ _=>rfl
 unfold vc12_L10
 rw [eN,rep]
 have w0:Rws H (H.new nb (mkEnt (famC (bit1 fun _=>false) g.nts.length) 0)) nb [⟨1,none,0,0,famC (hdrC g.toks.length id) 0⟩,⟨1,none,0,0,famC (hdrC (g.toks.length+1) id) 0⟩]:=(Rws.nil (Le.new h0) h0).none_.none_
 have m0:MadeB H H g.toks.length 0 id id:=⟨Le.refl H,fun i hi=>absurd hi (by omega),fun i hi=>absurd hi (by omega),fun i j hi=>absurd hi (by omega),fun i j hi=>absurd hi (by omega),fun i j hi=>absurd hi (by omega)⟩
 refine ⟨fun k a4 n5 n6 a7 n8 n9 a10 n11 n12 a13 n14 n15 a16 n17 n18 a19 n20 n21 a22 n23 n24 a25 n26 n27 a28 n29 n30 x31 H32=>(g.ta=a4/\g.toks.length=n5/\g.tc=n6/\g.na=a7/\g.nts.length=n8/\g.nc=n9/\g.pa=a10/\g.prods.length=n11/\g.pc=n12/\some ⟨nb,0,none⟩=a22/\g.nts.length=n23/\g.nts.length=n24)/\∃ (t:Nat) (Z:KH) (fb ob:Nat->Nat),x31=t/\n26=t/\n29=t/\t<=g.nts.length/\k=g.nts.length-t/\MadeB H Z g.toks.length t fb ob/\Rws Z H32 nb [⟨1,a25,t,n27,famC (hdrC g.toks.length fb) t⟩,⟨1,a28,t,n30,famC (hdrC (g.toks.length+1) ob) t⟩]/\H32 nb=some (mkEnt (famC (bit1 fun _=>false) g.nts.length) 0),⟨g.nts.length,⟨rfl,rfl,rfl,rfl,rfl,rfl,rfl,rfl,rfl,rfl,rfl,rfl⟩,0,H,id,id,rfl,rfl,rfl,by omega,rfl,m0,w0,if_pos rfl⟩,?_⟩
 rintro k a4 n5 n6 a7 n8 n9 a10 n11 n12 a13 n14 n15 a16 n17 n18 a19 n20 n21 a22 n23 n24 a25 n26 n27 a28 n29 n30 x31 H32 ⟨⟨rfl,rfl,rfl,rfl,rfl,rfl,rfl,rfl,rfl,rfl,rfl,rfl⟩,t,Z,fb,ob,rfl,rfl,rfl,ht,rfl,mb,w,hnb⟩
 refine ⟨fun z=>?_,fun z=>?_⟩
 .have z:n29<g.nts.length:=by have:=of_decide_eq_true z; omega
  have ht1:IntKind.wrap .i64 (((n29:Nat):Int)+1)=((n29+1:Nat):Int):=by rw [wrap64 (by omega) (by omega)]; omega
  rw [eM,eW,eM1,rep,rep,ht1]
  refine ⟨trivial,⟨by omega,by omega,by omega⟩,fun n1 h1 n2 h2=>⟨⟨by omega,by omega,by omega⟩,fun n3 h3 n4 h4 n5 h5=>?_⟩⟩
  rw [hide2 h3 h4]
  have nen:∀ n,H32 n=none->n≠nb:=fun n hn e=>by rw [e,hnb] at hn; cases hn
  have l1:=Le.new (e:=mkEnt (famC (bit1 fun _=>false) g.toks.length) 0) h1
  have l2:=Le.new (e:=mkEnt [.slice (some ⟨n1,0,none⟩) g.toks.length g.toks.length] 0) h2
  have l3:=Le.new (e:=mkEnt (famC (bit1 fun _=>false) (g.toks.length+1)) 0) h3
  have l4:=Le.new (e:=mkEnt [.slice (some ⟨n3,0,none⟩) (g.toks.length+1) (g.toks.length+1)] 0) h4
  have h5':=(l3.trans l4).none h5
  have wA:=(w.grow (e:=mkEnt (famC (bit1 fun _=>false) g.toks.length) 0) h1 (nen n1 h1)).new (e:=mkEnt [.slice (some ⟨n1,0,none⟩) g.toks.length g.toks.length] 0) h2
  have hA:=l2 _ _ (l1 _ _ hnb)
  obtain ⟨a8,c10,H11,f1,f2,f3,f4⟩:=wA.app (ti:=tiH) (nm:=n5) (m:=1) (new:=[.slice (some ⟨n1,0,none⟩) g.toks.length g.toks.length]) h5' (nen n5 ((l1.trans l2).none h5')) rfl rfl (by show n29+1<=_; omega) (by decide) (by decide)
  refine ⟨1,[.slice (some ⟨n1,0,none⟩) g.toks.length g.toks.length],knew_of (ti:=tiH) (lit_kold (if_pos rfl) rfl),a8,n29+1,c10,H11,f1,fun b4 b3=>⟨⟨⟨rfl,rfl⟩,rfl,⟨rfl,rfl⟩,rfl,rfl,rfl,trivial⟩,fun n12 h12=>?_⟩⟩
  rw [back2 h4] at h12 ⊢
  have b4':(H11.new n3 (mkEnt (famC (bit1 fun _=>false) (g.toks.length+1)) 0)) n4=none:=new_none b4 fun e=>by
   rw [e] at h4; simp [KH.new] at h4
  have m3:=Le.new (e:=mkEnt (famC (bit1 fun _=>false) (g.toks.length+1)) 0) b3
  have m4:=Le.new (e:=mkEnt [.slice (some ⟨n3,0,none⟩) (g.toks.length+1) (g.toks.length+1)] 0) b4'
  have wB:=(f2.grow (e:=mkEnt (famC (bit1 fun _=>false) (g.toks.length+1)) 0) b3 (nen n3 ((l1.trans l2).none h3))).new (e:=mkEnt [.slice (some ⟨n3,0,none⟩) (g.toks.length+1) (g.toks.length+1)] 0) b4'
  have hB:=m4 _ _ (m3 _ _ (f3 _ hA))
  have n12b:n12≠nb:=fun e=>by rw [e,hB] at h12; cases h12
  obtain ⟨a15,c17,H18,g1,g2,g3,g4⟩:=(wB.perm (List.Perm.swap _ _ _)).app (ti:=tiH) (nm:=n12) (m:=1) (new:=[.slice (some ⟨n3,0,none⟩) (g.toks.length+1) (g.toks.length+1)]) h12 n12b rfl rfl (by show n29+1<=_; omega) (by decide) (by decide)
  refine ⟨1,[.slice (some ⟨n3,0,none⟩) (g.toks.length+1) (g.toks.length+1)],knew_of (ti:=tiH) (lit_kold (if_pos rfl) rfl),a15,n29+1,c17,H18,g1,⟨⟨rfl,rfl⟩,trivial⟩,trivial,trivial,g.nts.length-(n29+1),by omega,⟨rfl,rfl,rfl,rfl,rfl,rfl,rfl,rfl,rfl,rfl,rfl,rfl⟩,n29+1,_,updN fb n29 n1,updN ob n29 n3,rfl,rfl,rfl,by omega,rfl,mb.next (w.le.none h1) (f2.le.none b3),?_,g3 _ hB⟩
  have:=g2.perm (List.Perm.swap _ _ _)
  rw [<- hdr_next,<- hdr_next]
  exact this
 .have z:n29=g.nts.length:=by have:=of_decide_eq_false z; omega
  subst z
  have bx:=boxes mb w.le h0 w.zp hnb
  obtain ⟨Z',lZ,bx',hk⟩:=bx.max
  have hfr:=w.fr
  have nm:∀ k,Z k=none->k≠nb->∀ i,ixD g.nts.length i->ixN nb fb ob i≠k:=fun k hk hn i hi e=>by
   cases i with
   | n=>exact hn (Eq.symm e)
   | f i=>have:=(mb.f i hi).1; rw [show fb i=k from e,hk] at this; cases this
   | o i=>have:=(mb.o i hi).1; rw [show ob i=k from e,hk] at this; cases this
  have kF:kold Z' 1 a25 g.nts.length=some (famC (hdrC g.toks.length fb) g.nts.length):=by
   refine ((w.ok _ (List.mem_cons_self ..)).agree fun k e hb he=>?_).row
   have:=w.fr _ (List.mem_cons_self ..) k hb
   exact hk k e he (nm k this.1 this.2)
  have kO:kold Z' 1 a28 g.nts.length=some (famC (hdrC (g.toks.length+1) ob) g.nts.length):=by
   refine ((w.ok _ (List.mem_cons_of_mem _ (List.mem_cons_self ..))).agree fun k e hb he=>?_).row
   have:=w.fr _ (List.mem_cons_of_mem _ (List.mem_cons_self ..)) k hb
   exact hk k e he (nm k this.1 this.2)
  have s:RefS Z' H32 g.nts.length g.toks.length nb fb ob a25 a28 fun _ _=>false:=⟨bx',kF,kO⟩
  obtain ⟨b1,o1,e1,r1⟩:=s.hdO (i:=0) (by omega)
  have r2:=s.ldO (i:=0) (t:=g.toks.length) (by omega) (by omega)
  have s2:=s.setO (i:=0) (t:=g.toks.length) (by omega) (by omega)
  have hF0:Flw g.prods g.toks.length 0 g.toks.length:=.zero
  have z0:Int.toNat (0:Int)=0:=rfl
  rw [z0]
  refine ⟨trivial,⟨by omega,by omega⟩,b1,o1,e1,_,_,_,r1,⟨by omega,by omega⟩,_,_,rfl,⟨[.bool false],rfl,by rw [eM]; exact r2⟩,Bxs.may s.b (j:=.o 0) (show 0<g.nts.length by omega),trivial,?_⟩
  refine l12s ok (g:=g) (Y:=Up1 (fun _ _=>false) 0 (1+(g.toks.length:Int)+(g.toks.length:Int))) (hg.up lZ) hm rfl ⟨by rw [eM]; exact s2,?_,(snd_none g.prods g.toks.length).setO (by omega) hF0,Stp.refl _⟩ ?_ fun H' Y' s' i1 i2 i3=>hq Z' H' nb fb ob a25 n27 a28 n30 Y' (lZ.trans s'.b.le) s' i1 i2 i3
  .exact up_in (fun i t q=>by cases q) ⟨by omega,by omega⟩ fun t q=>by have:=of_decide_eq_true q; omega
  .rw [flY_at (by omega) (by omega)]; exact up1_at ..
end
end Va
end Go.Proofs.Ytefiipkfppaibaa
namespace Go.Ew
open Go.Ev Go.Deep
def EtOk (g:Gm) (i:Nat) (v:Int):Prop:=v = -1\/∃ p:Nat,∃ h:p<g.prods.length,v=p/\g.prods[p].left=(i:Int)
structure RowT (H:KH) (g:Gm) (a:OA) (i:Nat):Prop where
 ex:∃ r:List Int,r.length=g.toks.length+1/\kold H 1 a (g.toks.length+1)=some (inC r)/\∀ v∈r,EtOk g i v
structure TabI (H:KH) (g:Gm) (a:OA):Prop where
 ex:∃ l:List Hd,l.length=g.nts.length/\kold H 1 a g.nts.length=some (hdC (g.toks.length+1) l)/\∀ j (h:j<l.length),RowT H g l[j].a j
theorem RowT.up {H H':KH} {g:Gm} {a:OA} {i:Nat} (h:RowT H g a i) (hl:Le H H'):RowT H' g a i:=by
 obtain ⟨r,h1,h2,h3⟩:=h.ex
 exact ⟨r,h1,hl.kold h2,h3⟩
theorem TabI.up {H H':KH} {g:Gm} {a:OA} (h:TabI H g a) (hl:Le H H'):TabI H' g a:=by
 obtain ⟨l,h1,h2,h3⟩:=h.ex
 exact ⟨l,h1,hl.kold h2,fun j hj=>(h3 j hj).up hl⟩
def tiCl:TI:=⟨4,32,true,3,0,0,[(0,1),(1,1),(2,1),(3,1)],[.int .i64 0,.int .i64 0,.int .i64 0,.int .i64 0]⟩
def tiII:TI:=⟨1,24,false,1,3,0,[],[.slice none 0 0]⟩
def I21a (Z:KH) (g:Gm) (nb cF cO:Nat) (aF aO:OA) (i t n24 n31 N0:Nat) (a22 a29:OA) (l:List Hd) (r:List Int) (k:Nat) (a4:OA) (n5:Nat) (n6:Nat) (a7:OA) (n8:Nat) (n9:Nat) (a10:OA) (n11:Nat) (n12:Nat) (a13:OA) (n14:Nat) (n15:Nat) (a16:OA) (n17:Nat) (n18:Nat) (a19:OA) (n20:Nat) (n21:Nat) (b22:OA) (m23:Nat) (m24:Nat) (a25:OA) (n26:Nat) (n27:Nat) (x28:Int) (b29:OA) (m30:Nat) (m31:Nat) (x32:Int) (x33:Int) (x34:Int) (H:KH):Prop:=(((g.ta:OA)=a4)/\((g.toks.length:Nat)=n5)/\((g.tc:Nat)=n6)/\((g.na:OA)=a7)/\((g.nts.length:Nat)=n8)/\((g.nc:Nat)=n9)/\((g.pa:OA)=a10)/\((g.prods.length:Nat)=n11)/\((g.pc:Nat)=n12)/\((some ⟨nb,0,none⟩:OA)=a13)/\((g.nts.length:Nat)=n14)/\((g.nts.length:Nat)=n15)/\((aF:OA)=a16)/\((g.nts.length:Nat)=n17)/\((cF:Nat)=n18)/\((aO:OA)=a19)/\((g.nts.length:Nat)=n20)/\((cO:Nat)=n21)/\((a22:OA)=b22)/\((i:Nat)=m23)/\((n24:Nat)=m24)/\((((i:Nat):Int):Int)=x28)/\((a29:OA)=b29)/\((t:Nat)=m30)/\((n31:Nat)=m31)/\((((t:Nat):Int):Int)=x32))/\∃ p:Nat,∃ cs:List Value,(x34=p)/\(p<=g.prods.length)/\(k=g.prods.length-p)/\(EtOk g i x33)/\(n26<=N0+p)/\(Rwz Z H [⟨4,a25,n26,n27,cs⟩,⟨1,a29,t,n31,inC r⟩,⟨1,a22,i,n24,hdC (g.toks.length+1) l⟩])
theorem I21a.mk {Z:KH} {g:Gm} {nb cF cO:Nat} {aF aO:OA} {i t n24 n31 N0:Nat} {a22 a29:OA} {l:List Hd} {r:List Int} {k:Nat} {a25:OA} {n26:Nat} {n27:Nat} {x33:Int} {x34:Int} {H:KH} (p:Nat) (cs:List Value) (h0:x34=p) (h1:p<=g.prods.length) (h2:k=g.prods.length-p) (h3:EtOk g i x33) (h4:n26<=N0+p) (h5:Rwz Z H [⟨4,a25,n26,n27,cs⟩,⟨1,a29,t,n31,inC r⟩,⟨1,a22,i,n24,hdC (g.toks.length+1) l⟩]):I21a Z g nb cF cO aF aO i t n24 n31 N0 a22 a29 l r k g.ta g.toks.length g.tc g.na g.nts.length g.nc g.pa g.prods.length g.pc (some ⟨nb,0,none⟩) g.nts.length g.nts.length aF g.nts.length cF aO g.nts.length cO a22 i n24 a25 n26 n27 (((i:Nat):Int)) a29 t n31 (((t:Nat):Int)) x33 x34 H:=⟨⟨rfl,rfl,rfl,rfl,rfl,rfl,rfl,rfl,rfl,rfl,rfl,rfl,rfl,rfl,rfl,rfl,rfl,rfl,rfl,rfl,rfl,rfl,rfl,rfl,rfl,rfl⟩,p,cs,h0,h1,h2,h3,h4,h5⟩
def I21b (Z:KH) (g:Gm) (nb cF cO:Nat) (aF aO:OA) (i n24 N0:Nat) (a22:OA) (l:List Hd) (k:Nat) (a4:OA) (n5:Nat) (n6:Nat) (a7:OA) (n8:Nat) (n9:Nat) (a10:OA) (n11:Nat) (n12:Nat) (a13:OA) (n14:Nat) (n15:Nat) (a16:OA) (n17:Nat) (n18:Nat) (a19:OA) (n20:Nat) (n21:Nat) (b22:OA) (m23:Nat) (m24:Nat) (a25:OA) (n26:Nat) (n27:Nat) (x28:Int) (a29:OA) (n30:Nat) (n31:Nat) (x32:Int) (H:KH):Prop:=(((g.ta:OA)=a4)/\((g.toks.length:Nat)=n5)/\((g.tc:Nat)=n6)/\((g.na:OA)=a7)/\((g.nts.length:Nat)=n8)/\((g.nc:Nat)=n9)/\((g.pa:OA)=a10)/\((g.prods.length:Nat)=n11)/\((g.pc:Nat)=n12)/\((some ⟨nb,0,none⟩:OA)=a13)/\((g.nts.length:Nat)=n14)/\((g.nts.length:Nat)=n15)/\((aF:OA)=a16)/\((g.nts.length:Nat)=n17)/\((cF:Nat)=n18)/\((aO:OA)=a19)/\((g.nts.length:Nat)=n20)/\((cO:Nat)=n21)/\((a22:OA)=b22)/\((i:Nat)=m23)/\((n24:Nat)=m24)/\((((i:Nat):Int):Int)=x28))/\∃ t:Nat,∃ r:List Int,∃ cs:List Value,(x32=t)/\(t<=g.toks.length+1)/\(k=g.toks.length+1-t)/\(n30=t)/\(r.length=t)/\(∀ v∈r,EtOk g i v)/\(n26<=N0+16*t)/\(Rwz Z H [⟨1,a29,t,n31,inC r⟩,⟨4,a25,n26,n27,cs⟩,⟨1,a22,i,n24,hdC (g.toks.length+1) l⟩])
theorem I21b.mk {Z:KH} {g:Gm} {nb cF cO:Nat} {aF aO:OA} {i n24 N0:Nat} {a22:OA} {l:List Hd} {k:Nat} {a25:OA} {n26:Nat} {n27:Nat} {a29:OA} {n30:Nat} {n31:Nat} {x32:Int} {H:KH} (t:Nat) (r:List Int) (cs:List Value) (h0:x32=t) (h1:t<=g.toks.length+1) (h2:k=g.toks.length+1-t) (h3:n30=t) (h4:r.length=t) (h5:∀ v∈r,EtOk g i v) (h6:n26<=N0+16*t) (h7:Rwz Z H [⟨1,a29,t,n31,inC r⟩,⟨4,a25,n26,n27,cs⟩,⟨1,a22,i,n24,hdC (g.toks.length+1) l⟩]):I21b Z g nb cF cO aF aO i n24 N0 a22 l k g.ta g.toks.length g.tc g.na g.nts.length g.nc g.pa g.prods.length g.pc (some ⟨nb,0,none⟩) g.nts.length g.nts.length aF g.nts.length cF aO g.nts.length cO a22 i n24 a25 n26 n27 (((i:Nat):Int)) a29 n30 n31 x32 H:=⟨⟨rfl,rfl,rfl,rfl,rfl,rfl,rfl,rfl,rfl,rfl,rfl,rfl,rfl,rfl,rfl,rfl,rfl,rfl,rfl,rfl,rfl,rfl⟩,t,r,cs,h0,h1,h2,h3,h4,h5,h6,h7⟩
def I21c (H0:KH) (g:Gm) (nb cF cO:Nat) (aF aO:OA) (k:Nat) (a4:OA) (n5:Nat) (n6:Nat) (a7:OA) (n8:Nat) (n9:Nat) (a10:OA) (n11:Nat) (n12:Nat) (a13:OA) (n14:Nat) (n15:Nat) (a16:OA) (n17:Nat) (n18:Nat) (a19:OA) (n20:Nat) (n21:Nat) (a22:OA) (n23:Nat) (n24:Nat) (a25:OA) (n26:Nat) (n27:Nat) (x28:Int) (H:KH):Prop:=(((g.ta:OA)=a4)/\((g.toks.length:Nat)=n5)/\((g.tc:Nat)=n6)/\((g.na:OA)=a7)/\((g.nts.length:Nat)=n8)/\((g.nc:Nat)=n9)/\((g.pa:OA)=a10)/\((g.prods.length:Nat)=n11)/\((g.pc:Nat)=n12)/\((some ⟨nb,0,none⟩:OA)=a13)/\((g.nts.length:Nat)=n14)/\((g.nts.length:Nat)=n15)/\((aF:OA)=a16)/\((g.nts.length:Nat)=n17)/\((cF:Nat)=n18)/\((aO:OA)=a19)/\((g.nts.length:Nat)=n20)/\((cO:Nat)=n21))/\∃ i:Nat,∃ Z:KH,∃ l:List Hd,∃ cs:List Value,(x28=i)/\(i<=g.nts.length)/\(k=g.nts.length-i)/\(n23=i)/\(l.length=i)/\(n26<=144*i)/\(Le H0 Z)/\(∀ j (h:j<l.length),RowT Z g l[j].a j)/\(Rwz Z H [⟨1,a22,i,n24,hdC (g.toks.length+1) l⟩,⟨4,a25,n26,n27,cs⟩])
theorem I21c.mk {H0:KH} {g:Gm} {nb cF cO:Nat} {aF aO:OA} {k:Nat} {a22:OA} {n23:Nat} {n24:Nat} {a25:OA} {n26:Nat} {n27:Nat} {x28:Int} {H:KH} (i:Nat) (Z:KH) (l:List Hd) (cs:List Value) (h0:x28=i) (h1:i<=g.nts.length) (h2:k=g.nts.length-i) (h3:n23=i) (h4:l.length=i) (h5:n26<=144*i) (h6:Le H0 Z) (h7:∀ j (h:j<l.length),RowT Z g l[j].a j) (h8:Rwz Z H [⟨1,a22,i,n24,hdC (g.toks.length+1) l⟩,⟨4,a25,n26,n27,cs⟩]):I21c H0 g nb cF cO aF aO k g.ta g.toks.length g.tc g.na g.nts.length g.nc g.pa g.prods.length g.pc (some ⟨nb,0,none⟩) g.nts.length g.nts.length aF g.nts.length cF aO g.nts.length cO a22 n23 n24 a25 n26 n27 x28 H:=⟨⟨rfl,rfl,rfl,rfl,rfl,rfl,rfl,rfl,rfl,rfl,rfl,rfl,rfl,rfl,rfl,rfl,rfl,rfl⟩,i,Z,l,cs,h0,h1,h2,h3,h4,h5,h6,h7,h8⟩
end Go.Ew
namespace Go.Proofs.Ytefiipkfppaibaa
open Go.Ev Go.Ew
namespace Va
section
variable (ok : EnvOk (env Try.prog))
include ok
theorem c41 {g:Gm} {Z H:KH} {nb cF cO:Nat} {fb ob:Nat->Nat} {aF aO:OA} {Y:Int->Int->Bool} {i t:Nat} {Q:PQ} (hg:GI H g) (hm:MayG g) (s:RefS Z H g.nts.length g.toks.length nb fb ob aF aO Y) (hi:i<g.prods.length) (ht:t<=g.toks.length) (hq:∀ b H',Le H H'->Q (.bool b) H') :
 Does (env Try.prog) 41 [.agg #[.slice (some ⟨nb,0,none⟩) g.nts.length g.nts.length,.slice aF g.nts.length cF,.slice aO g.nts.length cO],gv g,.int .i64 ((i:Nat):Int),.int .i64 ((t:Nat):Int)] H Q:=by
 obtain ⟨b1,o1,ha1,r1⟩:=pr_ld hg.p hi
 have pi:=hg.pi i hi
 have po:=hm.pr i hi
 have si:=SymsIn.of hm hi
 have hT:=hm.t
 have ei:Int.toNat ((i:Nat):Int)=i:=by omega
 have et:Int.toNat ((t:Nat):Int)=t:=by omega
 have hb:=po.b
 have ha:=po.a
 generalize g.prods[i]=d at *
 refine fn41 ok ⟨trivial,⟨by omega,by omega⟩,b1,o1,ha1,rfl,d.ra,d.right.length,d.rc,?_,?_⟩
 .rw [ei]; exact ldSub (m:=1) r1 1 (by simp)
 refine c19 ok s pi.1 si hT.2 (by omega) fun b H7 l7 _ k=>⟨_,_,_,_,rfl,trivial,trivial,?_⟩
 have fol:∀ q:Int->Bool,(∀ b,Q (.bool b) H7)->∃ n15 n16:Nat,(g.pa=some ⟨n15,n16,none⟩)/\(none:Option Nat)=none/\∃ x17:Int,ld H7 ⟨n15,n16+Int.toNat ((i:Nat):Int)*3+0,none⟩ [.int .i64 x17]/\(0<=x17/\x17<((g.nts.length:Nat):Int))/\∃ n18 n19:Nat,aO=some ⟨n18,n19,none⟩/\∃ a20:OA,∃ n21 n22:Nat,ld H7 ⟨n18,n19+Int.toNat x17*1,none⟩ [.slice a20 n21 n22]/\(0<=((t:Nat):Int)/\((t:Nat):Int)<((n21:Nat):Int))/\∃ n23 n24:Nat,a20=some ⟨n23,n24,none⟩/\∃ b25:Bool,ld H7 ⟨n23,n24+Int.toNat ((t:Nat):Int)*1,none⟩ [.bool b25]/\Q (.bool b25) H7:=fun _ hq=>by
  obtain ⟨bO,oO,eO,rO⟩:=(s.up l7).hdO (i:=d.left.toNat) (by omega)
  have rb:=(s.up l7).ldO (i:=d.left.toNat) (t:=t) (by omega) (by omega)
  rw [ei,et]
  exact ⟨b1,o1,ha1,rfl,d.left,l7.ld (ldSub (m:=1) r1 0 (by simp)),ha,bO,oO,eO,_,_,_,rO,⟨by omega,by omega⟩,_,0,rfl,_,rb,hq _⟩
 have q7:∀ b,Q (.bool b) H7:=fun b=>hq b H7 l7
 refine ⟨fun z=>?_,fun _=>⟨fun _=>⟨⟨by omega,by omega⟩,fol (fun _=>true) q7⟩,fun _=>q7 _⟩⟩
 have z:t<g.toks.length:=by have:=of_decide_eq_true z; omega
 obtain ⟨b2,o2,e2,r2⟩:=fam_ld (k:=1) (bit1_len _) k z
 refine ⟨⟨by omega,by omega⟩,b2,o2,e2,_,by rw [et]; exact r2,fun _=>q7 _,fun _=>⟨fun _=>⟨⟨by omega,by omega⟩,fol (fun _=>true) q7⟩,fun _=>q7 _⟩⟩
theorem l21a {Z0 H0 Z H:KH} {g:Gm} {nb cF cO:Nat} {aF aO:OA} {fb ob:Nat->Nat} {Y:Int->Int->Bool} {i t n n24 n26 n27 n31:Nat} {a22 a25 a29:OA} {l:List Hd} {r:List Int} {cs:List Value} {J:(Nat)->(OA->((Nat)->((Nat)->(OA->((Nat)->((Nat)->(OA->((Nat)->((Nat)->(OA->((Nat)->((Nat)->(OA->((Nat)->((Nat)->(OA->((Nat)->((Nat)->(OA->((Nat)->((Nat)->(OA->((Nat)->((Nat)->((Int)->(OA->((Nat)->((Nat)->((Int)->(KH->Prop))))))))))))))))))))))))))))))} (gi:GI H0 g) (hm:MayG g) (s:RefS Z0 H0 g.nts.length g.toks.length nb fb ob aF aO Y) (lz:Le H0 Z) (hi:i<g.nts.length) (ht:t<=g.toks.length) (h26:n26<=2000) (hr:r.length=t)
 (w:Rwz Z H [⟨4,a25,n26,n27,cs⟩,⟨1,a29,t,n31,inC r⟩,⟨1,a22,i,n24,hdC (g.toks.length+1) l⟩])
 (next:∀ v b25 m26 m27 cs' b29 m31 H',EtOk g i v->m26<=n26+16->Rwz Z H' [⟨1,b29,t+1,m31,inC (r++[v])⟩,⟨4,b25,m26,m27,cs'⟩,⟨1,a22,i,n24,hdC (g.toks.length+1) l⟩]->∃ k',k'<n/\J k' g.ta g.toks.length g.tc g.na g.nts.length g.nc g.pa g.prods.length g.pc (some ⟨nb,0,none⟩) g.nts.length g.nts.length aF g.nts.length cF aO g.nts.length cO a22 i n24 b25 m26 m27 ((i:Nat):Int) b29 (t+1) m31 (IntKind.wrap .i64 (((t:Nat):Int)+1)) H') :
 vc21_L3 g.ta g.toks.length g.tc g.na g.nts.length g.nc g.pa g.prods.length g.pc (some ⟨nb,0,none⟩) g.nts.length g.nts.length aF g.nts.length cF aO g.nts.length cO a22 i n24 a25 n26 n27 ((i:Nat):Int) a29 t n31 ((t:Nat):Int) H n J:=by
 have hP:=hm.p
 have hT:=hm.t
 unfold vc21_L3
 refine ⟨I21a Z g nb cF cO aF aO i t n24 n31 n26 a22 a29 l r,⟨g.prods.length,I21a.mk 0 cs rfl (by omega) rfl (.inl rfl) (by omega) w⟩,?_⟩
 clear w
 rintro k a4 n5 n6 a7 n8 n9 a10 n11 n12 a13 n14 n15 a16 n17 n18 a19 n20 n21 b22 m23 m24 a25 n26' n27 x28 b29 m30 m31 x32 x33 x34 H35 ⟨⟨rfl,rfl,rfl,rfl,rfl,rfl,rfl,rfl,rfl,rfl,rfl,rfl,rfl,rfl,rfl,rfl,rfl,rfl,rfl,rfl,rfl,rfl,rfl,rfl,rfl,rfl⟩,p,cs,rfl,hp,rfl,hv,h26',w⟩
 refine ⟨fun z=>?_,fun z=>fun n1 h1 n2 h2=>⟨1,[.int .i64 x33],knew_of (ti:=tiI) (lit_kold (if_pos rfl) rfl),?_⟩⟩
 .have z:p<g.prods.length:=by have:=of_decide_eq_true z; omega
  have ep:Int.toNat ((p:Nat):Int)=p:=by omega
  have hp1:IntKind.wrap .i64 (((p:Nat):Int)+1)=((p+1:Nat):Int):=by rw [wrap64 (by omega) (by omega)]; omega
  have lH:=lz.trans w.le
  have gH:=gi.up lH
  obtain ⟨b1,o1,e1,r1⟩:=pr_ld gH.p z
  rw [hp1]
  refine ⟨⟨by omega,by omega⟩,b1,o1,e1,rfl,(g.prods[p]).left,?_,fun y=>⟨_,by omega,I21a.mk (p+1) cs rfl z rfl hv (by omega) w⟩,fun y=>?_⟩
  .rw [ep]; exact ldSub (m:=1) r1 0 (by simp)
  have y:(g.prods[p]).left=(i:Int):=by have:=of_decide_eq_false y; exact Decidable.not_not.1 this
  refine c41 ok gH hm (s.up lH) z ht fun b H6 l6=>⟨b,rfl,fun _=>⟨_,by omega,I21a.mk (p+1) cs rfl z rfl hv (by omega) (w.up l6)⟩,fun _=>⟨fun _=>⟨_,by omega,I21a.mk (p+1) cs rfl z rfl (.inr ⟨p,z,rfl,y⟩) (by omega) (w.up l6)⟩,fun _=>fun n2 h2 n3 h3=>⟨1,[.int .i64 ((i:Nat):Int),.int .i64 ((t:Nat):Int),.int .i64 x33,.int .i64 ((p:Nat):Int)],knew_of (ti:=tiCl) (lit_kold (if_pos rfl) rfl),?_⟩⟩⟩
  obtain ⟨a',c',H',f1,f2⟩:=((w.up l6).new h2).app (ti:=tiCl) (nm:=n3) (m:=1) (new:=[.int .i64 ((i:Nat):Int),.int .i64 ((t:Nat):Int),.int .i64 x33,.int .i64 ((p:Nat):Int)]) h3 rfl rfl (by show n26'+1<=_; omega) (by decide) (by decide)
  exact ⟨a',_,c',H',f1,_,by omega,I21a.mk (p+1) _ rfl z rfl hv (by show n26'+1<=n26+(p+1); omega) f2⟩
 .obtain ⟨a',c',H',f1,f2⟩:=((w.new h1).perm (List.Perm.swap _ _ _)).app (ti:=tiI) (nm:=n2) (m:=1) (new:=[.int .i64 x33]) h2 rfl rfl (by show t+1<=_; omega) (by decide) (by decide)
  refine ⟨a',_,c',H',f1,?_⟩
  refine next x33 _ _ _ cs _ _ _ hv (by omega) ?_
  rw [inC_app]
  exact f2
theorem l21b {Z0 H0 Z H:KH} {g:Gm} {nb cF cO:Nat} {aF aO:OA} {fb ob:Nat->Nat} {Y:Int->Int->Bool} {i n n24 n26 n27:Nat} {a22 a25:OA} {l:List Hd} {cs:List Value} {J:(Nat)->(OA->((Nat)->((Nat)->(OA->((Nat)->((Nat)->(OA->((Nat)->((Nat)->(OA->((Nat)->((Nat)->(OA->((Nat)->((Nat)->(OA->((Nat)->((Nat)->(OA->((Nat)->((Nat)->(OA->((Nat)->((Nat)->((Int)->(KH->Prop))))))))))))))))))))))))))} (gi:GI H0 g) (hm:MayG g) (s:RefS Z0 H0 g.nts.length g.toks.length nb fb ob aF aO Y) (lz:Le H0 Z) (hi:i<g.nts.length) (h26:n26<=144*i) (hl:l.length=i)
 (w:Rwz Z H [⟨1,a22,i,n24,hdC (g.toks.length+1) l⟩,⟨4,a25,n26,n27,cs⟩])
 (next:∀ Z' b22 m24 b25 m26 m27 cs' (h:Hd) H',Le Z Z'->RowT Z' g h.a i->m26<=144*(i+1)->Rwz Z' H' [⟨1,b22,i+1,m24,hdC (g.toks.length+1) (l++[h])⟩,⟨4,b25,m26,m27,cs'⟩]->∃ k',k'<n/\J k' g.ta g.toks.length g.tc g.na g.nts.length g.nc g.pa g.prods.length g.pc (some ⟨nb,0,none⟩) g.nts.length g.nts.length aF g.nts.length cF aO g.nts.length cO b22 (i+1) m24 b25 m26 m27 (IntKind.wrap .i64 (((i:Nat):Int)+1)) H') :
 vc21_L5 g.ta g.toks.length g.tc g.na g.nts.length g.nc g.pa g.prods.length g.pc (some ⟨nb,0,none⟩) g.nts.length g.nts.length aF g.nts.length cF aO g.nts.length cO a22 i n24 a25 n26 n27 ((i:Nat):Int) H n J:=by
 have hN:=hm.n
 have hT:=hm.t
 unfold vc21_L5
 refine ⟨I21b Z g nb cF cO aF aO i n24 n26 a22 l,⟨g.toks.length+1,I21b.mk 0 [] cs rfl (by omega) rfl rfl rfl (fun v hv=>by cases hv) (by omega) (w.none_.perm (List.Perm.cons _ (List.Perm.swap _ _ _)))⟩,?_⟩
 clear w
 rintro k a4 n5 n6 a7 n8 n9 a10 n11 n12 a13 n14 n15 a16 n17 n18 a19 n20 n21 b22 m23 m24 a25 n26' n27 x28 a29 n30 n31 x32 H33 ⟨⟨rfl,rfl,rfl,rfl,rfl,rfl,rfl,rfl,rfl,rfl,rfl,rfl,rfl,rfl,rfl,rfl,rfl,rfl,rfl,rfl,rfl,rfl⟩,t,r,cs,rfl,ht,rfl,rfl,hr,hv,h26',w⟩
 refine ⟨fun z=>?_,fun z=>?_⟩
 .have z:n30<=g.toks.length:=by have:=of_decide_eq_true z; omega
  have ht1:IntKind.wrap .i64 (((n30:Nat):Int)+1)=((n30+1:Nat):Int):=by rw [wrap64 (by omega) (by omega)]; omega
  refine l21a ok gi hm s lz hi z (by omega) hr (w.perm (List.Perm.swap _ _ _)) fun v b25 m26 m27 cs' b29 m31 H' ev hm26 w'=>⟨g.toks.length+1-(n30+1),by omega,?_⟩
  rw [ht1]
  exact I21b.mk (n30+1) (r++[v]) cs' rfl (by omega) rfl rfl (by rw [List.length_append,hr]; rfl) (fun u hu=>(List.mem_append.1 hu).elim (hv u) fun hu=>by rw [List.mem_singleton.1 hu]; exact ev) (by omega) w'
 .have z:n30=g.toks.length+1:=by have:=of_decide_eq_false z; omega
  subst z
  obtain ⟨Z',l1,w2,k2⟩:=w.freeze
  intro n1 h1 n2 h2
  refine ⟨1,[.slice a29 (g.toks.length+1) n31],knew_of (ti:=tiII) (lit_kold (if_pos rfl) rfl),?_⟩
  obtain ⟨a',c',H',f1,f2⟩:=((w2.new h1).perm (List.Perm.swap _ _ _)).app (ti:=tiII) (nm:=n2) (m:=1) (new:=[.slice a29 (g.toks.length+1) n31]) h2 rfl rfl (by show i+1<=_; omega) (by decide) (by decide)
  refine ⟨a',_,c',H',f1,?_⟩
  refine next Z' _ _ _ _ _ cs ⟨a29,n31⟩ H' l1 ⟨r,hr,k2,hv⟩ (by omega) ?_
  rw [hdC_app]
  exact f2
theorem c21 {g:Gm} {H:KH} {Q:PQ} (gi:GI H g) (hm:MayG g)
 (hq:∀ a c b m d H',Le H H'->TabI H' g a->Q (.tuple #[.slice a g.nts.length c,.slice b m d]) H') :
 Does (env Try.prog) 21 [gv g] H Q:=by
 have hN:=hm.n
 refine fn21 ok (c40 ok gi hm.few fun b H2 l2 hb=>⟨b,rfl,fun z=>?_,fun z=>c12 ok (gi.up l2) hm fun Z H' nb fb ob aF cF aO cO Y l3 s _ _ _=>⟨_,_,_,_,_,_,_,_,_,rfl,?_⟩⟩)
 .rw [hb.2 hm] at z; cases z
 have gH:=gi.up (l2.trans l3)
 have lH:=l2.trans l3
 clear hb z
 unfold vc21_L6
 refine ⟨I21c H' g nb cF cO aF aO,⟨g.nts.length,I21c.mk 0 H' [] [] rfl (by omega) rfl rfl rfl (by omega) (Le.refl _) (fun j hj=>absurd hj (by simp)) (Rwz.nil (Le.refl _)).none_.none_⟩,?_⟩
 rintro k a4 n5 n6 a7 n8 n9 a10 n11 n12 a13 n14 n15 a16 n17 n18 a19 n20 n21 a22 n23 n24 a25 n26 n27 x28 H29 ⟨⟨rfl,rfl,rfl,rfl,rfl,rfl,rfl,rfl,rfl,rfl,rfl,rfl,rfl,rfl,rfl,rfl,rfl,rfl⟩,i,Z1,l,cs,rfl,hi,rfl,rfl,hl,h26,lz,hrow,w⟩
 refine ⟨fun z=>?_,fun z=>?_⟩
 .have z:n23<g.nts.length:=by have:=of_decide_eq_true z; omega
  have hi1:IntKind.wrap .i64 (((n23:Nat):Int)+1)=((n23+1:Nat):Int):=by rw [wrap64 (by omega) (by omega)]; omega
  refine l21b ok gH hm s lz z h26 hl w fun Z' b22 m24 b25 m26 m27 cs' h H'' l1 rt hm26 w'=>⟨g.nts.length-(n23+1),by omega,?_⟩
  rw [hi1]
  refine I21c.mk (n23+1) Z' (l++[h]) cs' rfl z rfl rfl (by rw [List.length_append,hl]; rfl) hm26 (lz.trans l1) (fun j hj=>?_) w'
  rw [List.length_append] at hj
  by_cases q:j<l.length
  .rw [List.getElem_append_left q]; exact (hrow j q).up l1
  .have q:j=l.length:=by have:[h].length=1:=rfl; omega
   subst q
   rw [List.getElem_append_right (Nat.le_refl _)]
   simp only [Nat.sub_self,List.getElem_cons_zero]
   rw [hl]; exact rt
 .have z:n23=g.nts.length:=by have:=of_decide_eq_false z; omega
  subst z
  obtain ⟨Z',l1,w2,k2⟩:=w.freeze
  exact hq _ _ _ _ _ _ (lH.trans (lz.trans w.le)) ⟨l,hl,w2.le.kold k2,fun j hj=>(hrow j hj).up (l1.trans w2.le)⟩
end
end Va
end Go.Proofs.Ytefiipkfppaibaa
set_option maxRecDepth 100000
namespace Go.Proofs.Ytefiipkfppaibaa
open Go.Ev Go.Ew
namespace Va
def W42 (P:Program):WE:=⟨env P,tupT,[3,8],mkTab [(0,[.tmp 0 .ptr,.tmp 6 (.int .i64),.tmp 7 (.int .i64),.tmp 9 .slice,.tmp 10 (.int .i64)])],42⟩
def vc42_J0 (y1:KH) (y2 y3:Nat) (y4 y5:Int) (y6:OA) (y7 y8 y9:Nat) (y10:(Nat->(Nat->(Nat->(Int->(Int->(OA->(Nat->(Nat->(Int->(KH->Prop))))))))))) (y11:Int):Prop :=
 ((none:(Option Nat))=none/\(none:(Option Nat))=none/\∃ (f:(OA)) (g ac:Nat),ld y1 ⟨y2,(y3+0)+2,none⟩ [(.slice f g ac)]/\((0:Int)<=y4/\y4<(g:Int))/\∃ (h i:Nat),f=some ⟨h,i,none⟩/\(none:(Option Nat))=none/\∃ (j:(OA)) (k ad:Nat),ld y1 ⟨h,(i+((Int.toNat y4)*3))+1,none⟩ [(.slice j k ad)]/\((0:Int)<=y5/\y5<(k:Int))/\∃ (l m:Nat),j=some ⟨l,m,none⟩/\∃ (n:Bool) (o:Int),ld y1 ⟨l,m+((Int.toNat y5)*2),none⟩ [.bool n,.int .i64 o]/\Does (env Try.prog) 42 [.pointer (some ⟨y2,y3,none⟩),.agg #[.bool n,.int .i64 o]] y1 fun af a=>∃ (c:Int),af=(.int .i64 c)/\(none:(Option Nat))=none/\∃ (e:Int),ld a ⟨y2,y3+8,none⟩ [(.int .i64 e)]/\(decide (e=0)=true->(none:(Option Nat))=none/\(none:(Option Nat))=none/\∃ (p:(OA)) (q ae:Nat),ld a ⟨y2,(y3+6)+0,none⟩ [(.slice p q ae)]/\((0:Int)<=c/\c<(q:Int))/\∃ (r s:Nat),p=some ⟨r,s,none⟩/\(none:(Option Nat))=none/\∃ (d:Int),ld a ⟨r,(s+((Int.toNat c)*5))+0,none⟩ [(.int .i64 d)]/\∀ (b:Nat),((a b):(Option (Ent)))=none->∀ (t:Nat),(((KH.new a b (mkEnt [(.int .i64 d)] 0)) t):(Option (Ent)))=none->∃ (u:Nat) (v:(List Value)),((knew (KH.new a b (mkEnt [(.int .i64 d)] 0)) ⟨1,8,false,5,0,0,[],[(.int .i64 0)]⟩ (.slice (some ⟨b,0,none⟩) 1 1)):(Option (Nat × (List Value))))=(some (u,v))/\∃ (w:(OA)) (x y:Nat) (z:KH),((kappend (KH.new a b (mkEnt [(.int .i64 d)] 0)) t ⟨1,8,false,5,0,0,[],[(.int .i64 0)]⟩ y6 y7 y8 u v):(Option (Value × KH)))=(some (.slice w x y,z))/\∃ (aa:Nat),(aa:Nat)<y9/\(none:(Option Nat))=none/\y10 aa y2 y3 y4 y11 w x y (IntKind.wrap .i64 (y5+1)) z)/\(decide (e=0)=false->∃ (ab:Nat),(ab:Nat)<y9/\(none:(Option Nat))=none/\y10 ab y2 y3 y4 y11 y6 y7 y8 (IntKind.wrap .i64 (y5+1)) a))
def vc42_J1 (y1:KH) (y2 y3:Nat) (y4:Int) (y5:OA) (y6 y7:Nat) (y8:PQ):Prop :=
 ((none:(Option Nat))=none/\(none:(Option Nat))=none/\∃ (c:(OA)) (d f:Nat),ld y1 ⟨y2,(y3+6)+0,none⟩ [(.slice c d f)]/\((0:Int)<=y4/\y4<(d:Int))/\∃ (a b:Nat),c=some ⟨a,b,none⟩/\(none:(Option Nat))=none/\(∃ (e:(List Value)),((List.length e):Nat)=(List.length [(Value.slice y5 y6 y7)])/\ld y1 ⟨a,(b+((Int.toNat y4)*5))+4,none⟩ e)/\KH.may y1 a/\y8 (.int .i64 y4) (KH.put y1 ⟨a,(b+((Int.toNat y4)*5))+4,none⟩ [(.slice y5 y6 y7)]))
def vc42_L3 (y1 y2:Nat) (y3 y4:Int) (y5:KH) (y6:OA) (y7 y8:Nat) (y9:Int) (y10:PQ):Prop :=
 (∃ (j:(Nat->Nat->Nat->Int->Int->OA->Nat->Nat->Int->KH->Prop)),(∃ (r:Nat),(none:(Option Nat))=none/\j r y1 y2 y3 y4 none 0 0 0 (KH.put (KH.put y5 ⟨y1,(y2+6)+0,none⟩ [(.slice y6 y7 y8)]) ⟨y1,(y2+6)+1,none⟩ [(.int .i64 (IntKind.wrap .i64 (y9+1)))]))/\∀ (m b c:Nat) (d e:Int) (f:(OA)) (g h:Nat) (i:Int) (a:KH),j m b c d e f g h i a->(none:(Option Nat))=none/\(none:(Option Nat))=none/\∃ (n:(OA)) (o s:Nat),ld a ⟨b,(c+0)+2,none⟩ [(.slice n o s)]/\((0:Int)<=d/\d<(o:Int))/\∃ (p q:Nat),n=some ⟨p,q,none⟩/\(none:(Option Nat))=none/\∃ (t:(OA)) (k u:Nat),ld a ⟨p,(q+((Int.toNat d)*3))+1,none⟩ [(.slice t k u)]/\(decide (i<(k:Int))=true->(none:(Option Nat))=none/\∃ (l:Int),ld a ⟨b,c+8,none⟩ [(.int .i64 l)]/\(decide (l=0)=true->vc42_J0 a b c d i f g h m j e)/\(decide (l=0)=false->vc42_J1 a b c e f g h y10))/\(decide (i<(k:Int))=false->vc42_J1 a b c e f g h y10))
def vc42_J4 (y1:KH) (y2 y3:Nat) (y4 y5 y6:Int) (y7:ByteArray) (y8:OA) (y9 y10:Nat) (y11:Bool) (y12:PQ) (y13:Int):Prop :=
 (True/\(none:(Option Nat))=none/\(none:(Option Nat))=none/\∃ (g:(OA)) (h i:Nat),ld y1 ⟨y2,(y3+6)+0,none⟩ [(.slice g h i)]/\∀ (e:Nat),((y1 e):(Option (Ent)))=none->∀ (j:Nat),(((KH.new y1 e (mkEnt [.int .i64 y4,.int .i64 y5,.int .i64 y6,.string y7,.slice y8 y9 y10] 0)) j):(Option (Ent)))=none->∃ (k:Nat) (l:(List Value)),((knew (KH.new y1 e (mkEnt [.int .i64 y4,.int .i64 y5,.int .i64 y6,.string y7,.slice y8 y9 y10] 0)) ⟨5,64,true,3,0,0,[(0,1),(1,1),(2,1),(3,1),(4,1)],[.int .i64 0,.int .i64 0,.int .i64 0,.string (ByteArray.mk #[]),.slice none 0 0]⟩ (.slice (some ⟨e,0,none⟩) 1 1)):(Option (Nat × (List Value))))=(some (k,l))/\∃ (b:(OA)) (c d:Nat) (a:KH),((kappend (KH.new y1 e (mkEnt [.int .i64 y4,.int .i64 y5,.int .i64 y6,.string y7,.slice y8 y9 y10] 0)) j ⟨5,64,true,3,0,0,[(0,1),(1,1),(2,1),(3,1),(4,1)],[.int .i64 0,.int .i64 0,.int .i64 0,.string (ByteArray.mk #[]),.slice none 0 0]⟩ g h i k l):(Option (Value × KH)))=(some (.slice b c d,a))/\(((.pointer (some ⟨y2,y3,none⟩)):Value)=(.pointer (some ⟨y2,y3,none⟩))/\True)/\(none:(Option Nat))=none/\(none:(Option Nat))=none/\(∃ (m:(List Value)),((List.length m):Nat)=(List.length [(Value.slice b c d)])/\ld a ⟨y2,(y3+6)+0,none⟩ m)/\KH.may a y2/\True/\(none:(Option Nat))=none/\(none:(Option Nat))=none/\∃ (f:Int),ld (KH.put a ⟨y2,(y3+6)+0,none⟩ [(.slice b c d)]) ⟨y2,(y3+6)+1,none⟩ [(.int .i64 f)]/\(none:(Option Nat))=none/\(none:(Option Nat))=none/\(∃ (n:(List Value)),((List.length n):Nat)=(List.length [(Value.int .i64 (IntKind.wrap .i64 (f+1)))])/\ld (KH.put a ⟨y2,(y3+6)+0,none⟩ [(.slice b c d)]) ⟨y2,(y3+6)+1,none⟩ n)/\KH.may (KH.put a ⟨y2,(y3+6)+0,none⟩ [(.slice b c d)]) y2/\(y11=true->y12 (.int .i64 y13) (KH.put (KH.put a ⟨y2,(y3+6)+0,none⟩ [(.slice b c d)]) ⟨y2,(y3+6)+1,none⟩ [(.int .i64 (IntKind.wrap .i64 (f+1)))]))/\(y11=false->vc42_L3 y2 y3 y5 y13 a b c d f y12))
def vc42_J6 (y1:KH) (y2 y3:Nat) (y4:PQ) (y5:Bool) (y6 y7:Int):Prop :=
 ((none:(Option Nat))=none/\(none:(Option Nat))=none/\∃ (u:(OA)) (f v:Nat),ld y1 ⟨y2,(y3+6)+0,none⟩ [(.slice u f v)]/\(decide ((2000:Int)<=(f:Int))=true->(none:(Option Nat))=none/\(∃ (k:(List Value)),((List.length k):Nat)=(List.length [(Value.int .i64 3)])/\ld y1 ⟨y2,y3+8,none⟩ k)/\KH.may y1 y2/\y4 (.int .i64 0) (KH.put y1 ⟨y2,y3+8,none⟩ [(.int .i64 3)]))/\(decide ((2000:Int)<=(f:Int))=false->(none:(Option Nat))=none/\(none:(Option Nat))=none/\∃ (w:(OA)) (g x:Nat),ld y1 ⟨y2,(y3+6)+0,none⟩ [(.slice w g x)]/\(none:(Option Nat))=none/\(none:(Option Nat))=none/\∃ (h:Int),ld y1 ⟨y2,(y3+6)+1,none⟩ [(.int .i64 h)]/\(y5=true->True/\(none:(Option Nat))=none/\∃ (d:(OA)) (e l:Nat),ld y1 ⟨y2,y3+4,none⟩ [(.slice d e l)]/\(none:(Option Nat))=none/\∃ (a:Int),ld y1 ⟨y2,y3+5,none⟩ [(.int .i64 a)]/\((0:Int)<=a/\a<(e:Int))/\∃ (b c:Nat),d=some ⟨b,c,none⟩/\(none:(Option Nat))=none/\∃ (i:ByteArray),ld y1 ⟨b,(c+((Int.toNat a)*2))+1,none⟩ [(.string i)]/\(((.pointer (some ⟨y2,y3,none⟩)):Value)=(.pointer (some ⟨y2,y3,none⟩))/\((.pointer (some ⟨y2,y3,none⟩)):Value)=(.pointer (some ⟨y2,y3,none⟩))/\((none:(Option Nat))=none/\((.pointer (some ⟨y2,y3+4,none⟩)):Value)=(.pointer (some ⟨y2,y3+4,none⟩)))/\(∃ (m:(OA)) (n o:Nat),ld y1 ⟨y2,y3+4,none⟩ [(.slice m n o)]/\((.slice m n o):Value)=(.slice d e l))/\((.pointer (some ⟨y2,y3,none⟩)):Value)=(.pointer (some ⟨y2,y3,none⟩))/\((.pointer (some ⟨y2,y3,none⟩)):Value)=(.pointer (some ⟨y2,y3,none⟩))/\((none:(Option Nat))=none/\((.pointer (some ⟨y2,y3+5,none⟩)):Value)=(.pointer (some ⟨y2,y3+5,none⟩)))/\(∃ (p:Int),ld y1 ⟨y2,y3+5,none⟩ [(.int .i64 p)]/\((.int .i64 p):Value)=(.int .i64 a))/\(((0:Int)<=a/\a<(e:Int))/\∃ (q r:Nat),d=some ⟨q,r,none⟩/\((.pointer (some ⟨q,r+((Int.toNat a)*2),none⟩)):Value)=(.pointer (some ⟨b,c+((Int.toNat a)*2),none⟩)))/\((none:(Option Nat))=none/\((.pointer (some ⟨b,(c+((Int.toNat a)*2))+1,none⟩)):Value)=(.pointer (some ⟨b,(c+((Int.toNat a)*2))+1,none⟩)))/\(∃ (s:ByteArray),ld y1 ⟨b,(c+((Int.toNat a)*2))+1,none⟩ [(.string s)]/\((.string s):Value)=(.string i))/\True)/\True/\(none:(Option Nat))=none/\∃ (j:Int),ld y1 ⟨y2,y3+5,none⟩ [(.int .i64 j)]/\(none:(Option Nat))=none/\(∃ (t:(List Value)),((List.length t):Nat)=(List.length [(Value.int .i64 (IntKind.wrap .i64 (j+1)))])/\ld y1 ⟨y2,y3+5,none⟩ t)/\KH.may y1 y2/\vc42_J4 (KH.put y1 ⟨y2,y3+5,none⟩ [(.int .i64 (IntKind.wrap .i64 (j+1)))]) y2 y3 h y6 y7 i none 0 0 y5 y4 (g:Int))/\(y5=false->vc42_J4 y1 y2 y3 h y6 0 (ByteArray.mk #[]) none 0 0 y5 y4 (g:Int))))
def vc42_J7 (y1:Bool) (y2:KH) (y3 y4:Nat) (y5:PQ) (y6 y7 y8:Int):Prop :=
 (True/\(y1=true->(none:(Option Nat))=none/\∃ (a:Int),ld y2 ⟨y3,y4+5,none⟩ [(.int .i64 a)]/\(none:(Option Nat))=none/\∃ (g:(OA)) (b h:Nat),ld y2 ⟨y3,y4+4,none⟩ [(.slice g b h)]/\(decide ((b:Int)<=a)=true->(none:(Option Nat))=none/\(∃ (c:(List Value)),((List.length c):Nat)=(List.length [(Value.int .i64 9)])/\ld y2 ⟨y3,y4+8,none⟩ c)/\KH.may y2 y3/\y5 (.int .i64 0) (KH.put y2 ⟨y3,y4+8,none⟩ [(.int .i64 9)]))/\(decide ((b:Int)<=a)=false->(decide (y6≠y7)=true->(none:(Option Nat))=none/\(∃ (d:(List Value)),((List.length d):Nat)=(List.length [(Value.int .i64 9)])/\ld y2 ⟨y3,y4+8,none⟩ d)/\KH.may y2 y3/\y5 (.int .i64 0) (KH.put y2 ⟨y3,y4+8,none⟩ [(.int .i64 9)]))/\(decide (y6≠y7)=false->((!y1)=true->(decide (y8<0)=true->(none:(Option Nat))=none/\(∃ (e:(List Value)),((List.length e):Nat)=(List.length [(Value.int .i64 9)])/\ld y2 ⟨y3,y4+8,none⟩ e)/\KH.may y2 y3/\y5 (.int .i64 0) (KH.put y2 ⟨y3,y4+8,none⟩ [(.int .i64 9)]))/\(decide (y8<0)=false->vc42_J6 y2 y3 y4 y5 y1 y8 y6))/\((!y1)=false->vc42_J6 y2 y3 y4 y5 y1 y8 y6))))/\(y1=false->((!y1)=true->(decide (y8<0)=true->(none:(Option Nat))=none/\(∃ (f:(List Value)),((List.length f):Nat)=(List.length [(Value.int .i64 9)])/\ld y2 ⟨y3,y4+8,none⟩ f)/\KH.may y2 y3/\y5 (.int .i64 0) (KH.put y2 ⟨y3,y4+8,none⟩ [(.int .i64 9)]))/\(decide (y8<0)=false->vc42_J6 y2 y3 y4 y5 y1 y8 y6))/\((!y1)=false->vc42_J6 y2 y3 y4 y5 y1 y8 y6)))
def vc42_J8 (y1:Bool) (y2:Int) (y3:KH) (y4 y5:Nat) (y6:Int) (y7:PQ):Prop :=
 (True/\((!y1)=true->(decide ((0:Int)<=y2)=true->(none:(Option Nat))=none/\∃ (e:(OA)) (f aa:Nat),ld y3 ⟨y4,y5+3,none⟩ [(.slice e f aa)]/\((0:Int)<=y6/\y6<(f:Int))/\∃ (g h:Nat),e=some ⟨g,h,none⟩/\∃ (ab:(OA)) (a ac:Nat),ld y3 ⟨g,h+((Int.toNat y6)*1),none⟩ [(.slice ab a ac)]/\(decide (y2<(a:Int))=true->(none:(Option Nat))=none/\∃ (b:Int),ld y3 ⟨y4,y5+5,none⟩ [(.int .i64 b)]/\(none:(Option Nat))=none/\∃ (ad:(OA)) (c ae:Nat),ld y3 ⟨y4,y5+4,none⟩ [(.slice ad c ae)]/\(decide ((c:Int)<=b)=true->True/\(none:(Option Nat))=none/\∃ (i:(OA)) (j af:Nat),ld y3 ⟨y4,y5+3,none⟩ [(.slice i j af)]/\((0:Int)<=y6/\y6<(j:Int))/\∃ (k l:Nat),i=some ⟨k,l,none⟩/\∃ (m:(OA)) (n ag:Nat),ld y3 ⟨k,l+((Int.toNat y6)*1),none⟩ [(.slice m n ag)]/\((0:Int)<=y2/\y2<(n:Int))/\∃ (o p:Nat),m=some ⟨o,p,none⟩/\∃ (q:Int),ld y3 ⟨o,p+((Int.toNat y2)*1),none⟩ [(.int .i64 q)]/\vc42_J7 y1 y3 y4 y5 y7 y2 y6 q)/\(decide ((c:Int)<=b)=false->(none:(Option Nat))=none/\(none:(Option Nat))=none/\∃ (ah:(OA)) (d ai:Nat),ld y3 ⟨y4,(y5+0)+0,none⟩ [(.slice ah d ai)]/\(decide (y2<(d:Int))=true->True/\(none:(Option Nat))=none/\∃ (r:(OA)) (s aj:Nat),ld y3 ⟨y4,y5+3,none⟩ [(.slice r s aj)]/\((0:Int)<=y6/\y6<(s:Int))/\∃ (t u:Nat),r=some ⟨t,u,none⟩/\∃ (v:(OA)) (w ak:Nat),ld y3 ⟨t,u+((Int.toNat y6)*1),none⟩ [(.slice v w ak)]/\((0:Int)<=y2/\y2<(w:Int))/\∃ (x y:Nat),v=some ⟨x,y,none⟩/\∃ (z:Int),ld y3 ⟨x,y+((Int.toNat y2)*1),none⟩ [(.int .i64 z)]/\vc42_J7 y1 y3 y4 y5 y7 y2 y6 z)/\(decide (y2<(d:Int))=false->vc42_J7 y1 y3 y4 y5 y7 y2 y6 (-1))))/\(decide (y2<(a:Int))=false->vc42_J7 y1 y3 y4 y5 y7 y2 y6 (-1)))/\(decide ((0:Int)<=y2)=false->vc42_J7 y1 y3 y4 y5 y7 y2 y6 (-1)))/\((!y1)=false->vc42_J7 y1 y3 y4 y5 y7 y2 y6 (-1)))
def vc42 (p0b p0o:Nat) (p1_0:Bool) (p1_1:Int) (H:KH) (Q:PQ):Prop :=
 ((none:(Option Nat))=none/\∃ (b:Int),ld H ⟨p0b,p0o+8,none⟩ [(.int .i64 b)]/\(decide (b≠0)=true->Q (.int .i64 0) H)/\(decide (b≠0)=false->(none:(Option Nat))=none/\(none:(Option Nat))=none/\∃ (k:(OA)) (e l:Nat),ld H ⟨p0b,(p0o+0)+0,none⟩ [(.slice k e l)]/\True/\(none:(Option Nat))=none/\∃ (c:Int),ld H ⟨p0b,p0o+5,none⟩ [(.int .i64 c)]/\(none:(Option Nat))=none/\∃ (m:(OA)) (d n:Nat),ld H ⟨p0b,p0o+4,none⟩ [(.slice m d n)]/\(decide (c<(d:Int))=true->True/\(none:(Option Nat))=none/\∃ (f:(OA)) (g o:Nat),ld H ⟨p0b,p0o+4,none⟩ [(.slice f g o)]/\(none:(Option Nat))=none/\∃ (a:Int),ld H ⟨p0b,p0o+5,none⟩ [(.int .i64 a)]/\((0:Int)<=a/\a<(g:Int))/\∃ (h i:Nat),f=some ⟨h,i,none⟩/\(none:(Option Nat))=none/\∃ (j:Int),ld H ⟨h,(i+((Int.toNat a)*2))+0,none⟩ [(.int .i64 j)]/\vc42_J8 p1_0 j H p0b p0o p1_1 Q)/\(decide (c<(d:Int))=false->vc42_J8 p1_0 (e:Int) H p0b p0o p1_1 Q)))
theorem fn42 (ok:EnvOk (env Try.prog)) {p0b p0o:Nat} {p1_0:Bool} {p1_1:Int} {H:KH} {Q:PQ} (h:vc42 p0b p0o p1_0 p1_1 H Q):Does (env Try.prog) 42 [.pointer (some ⟨p0b,p0o,none⟩),.agg #[.bool p1_0,.int .i64 p1_1]] H Q :=
 wFun_sound (W:=W42 Try.prog) ok.tt (blt_lt (by kernel_rfl)) (ff_of ok (by kernel_rfl) Try.func42) (Eq.mpr (by kernel_rfl) h)
end Va
end Go.Proofs.Ytefiipkfppaibaa
namespace Go.Ew
open Go.Ev Go.Deep
theorem Fo.pos {G:List Pr} {s:Sy} {v:List Nd} (h:Fo G [s] v):0<v.length:=by
 cases h<;>simp
def setK (n:Nd) (a:OA) (k c:Nat):Nd:=⟨n.id,n.prod,n.kind,n.text,a,k,c⟩
def nd4 (n:Nd):List Value:=[.int .i64 n.id,.int .i64 n.prod,.int .i64 n.kind,.string n.text]
theorem nd_cut {l:List Nd} {i:Nat} (h:i<l.length):ndC l=(ndC (l.take i)++nd4 l[i])++[.slice l[i].ka l[i].kn l[i].kc]++ndC (l.drop (i+1)):=by
 have e:l=l.take i++l[i] :: l.drop (i+1):=by rw [<- List.drop_eq_getElem_cons h,List.take_append_drop]
 have q:ndC l=ndC (l.take i++l[i] :: l.drop (i+1)):=by rw [<- e]
 rw [q,ndC_app,List.append_assoc,List.append_assoc]
 congr 1
theorem nd_set {l:List Nd} {i:Nat} (h:i<l.length) (a:OA) (k c:Nat):ndC (l.set i (setK l[i] a k c))=(ndC (l.take i)++nd4 l[i])++[.slice a k c]++ndC (l.drop (i+1)):=by
 rw [List.set_eq_take_append_cons_drop,if_pos h,ndC_app,List.append_assoc,List.append_assoc]
 congr 1
theorem nd_xs {l:List Nd} {i:Nat} (h:i<l.length):(ndC (l.take i)++nd4 l[i]).length=i*5+4:=by
 rw [List.length_append,ndC_len,List.length_take]
 show min i l.length*5+4=i*5+4
 rw [Nat.min_eq_left (by omega)]
structure Sit (Z:KH) (g:Gm) (tb la:OA) (ls:List Lf):Prop where
 gi:GI Z g
 hm:MayG g
 tab:TabI Z g tb
 l:kold Z 2 la ls.length=some (lfC ls)
 li:LfIn g.toks.length ls
 l40:ls.length<=40
def mkC (g:Gm) (tb la:OA) (tc L lc at_:Nat) (a:OA) (n c:Nat) (nx e:Int):List Value :=
 [.slice g.ta g.toks.length g.tc,.slice g.na g.nts.length g.nc,.slice g.pa g.prods.length g.pc,.slice tb g.nts.length tc,.slice la L lc,.int .i64 ((at_:Nat):Int),.slice a n c,.int .i64 nx,.int .i64 e]
abbrev MkT (Z H:KH) (p:Nat) (g:Gm) (tb:OA) (tc:Nat) (la:OA) (lc:Nat) (ls:List Lf) (at_:Nat) (a:OA) (c:Nat) (nodes:List Nd) (nx e:Int) (R:List Rr):Prop :=
 Ps Z H p (mkC g tb la tc ls.length lc at_ a nodes.length c nx e) (⟨5,a,nodes.length,c,ndC nodes⟩ :: R)
def SyOk (g:Gm) (s:Sy):Prop:=0<=s.pos/\(s.tok=true->s.pos<g.toks.length)/\(s.tok=false->s.pos<g.nts.length)
def tiNd:TI:=⟨5,64,true,3,0,0,[(0,1),(1,1),(2,1),(3,1),(4,1)],[.int .i64 0,.int .i64 0,.int .i64 0,.string ⟨#[]⟩,.slice none 0 0]⟩
def SyQ (Z:KH) (p:Nat) (g:Gm) (tb:OA) (tc:Nat) (la:OA) (lc:Nat) (ls:List Lf) (R:List Rr) (s:Sy) (nodes:List Nd) (Q:PQ):Prop :=
 ∀ (H':KH) (at':Nat) (a':OA) (c':Nat) (nodes':List Nd) (nx' e' x:Int),MkT Z H' p g tb tc la lc ls at' a' c' nodes' nx' e' R->nodes.length<=nodes'.length->nodes'.length<=2000->at'<=ls.length->
  (e'=0->x=((nodes.length:Nat):Int)/\(∃ v,nodes'=nodes++v/\Fo g.prods [s] v)/\lvs nodes'=ls.take at')->Q (.int .i64 x) H'
def I42 (Z:KH) (p tc lc j:Nat) (g:Gm) (tb la:OA) (ls:List Lf) (R:List Rr) (nodes:List Nd) (nd:Nd) (d:Pr) (k:Nat) (n4:Nat) (n5:Nat) (x6:Int) (x7:Int) (a8:OA) (n9:Nat) (n10:Nat) (x11:Int) (H:KH):Prop:=(((p:Nat)=n4)/\((0:Nat)=n5)/\((((j:Nat):Int):Int)=x6)/\((((nodes.length:Nat):Int):Int)=x7))/\∃ u:Nat,∃ at1:Nat,∃ a1:OA,∃ c1:Nat,∃ nodes1:List Nd,∃ nx1:Int,∃ e1:Int,∃ kcs:List Value,(x11=u)/\(u<=d.right.length)/\(k=d.right.length-u)/\(n9<=u)/\(MkT Z H p g tb tc la lc ls at1 a1 c1 nodes1 nx1 e1 (⟨1,a8,n9,n10,kcs⟩ :: R))/\(nodes.length+1<=nodes1.length)/\(nodes1.length<=2000)/\(at1<=ls.length)/\(e1=0->n9=u/\(∃ v,nodes1=nodes++nd :: v/\Fo g.prods (d.right.take u) v)/\lvs nodes1=ls.take at1)
theorem I42.mk {Z:KH} {p tc lc j:Nat} {g:Gm} {tb la:OA} {ls:List Lf} {R:List Rr} {nodes:List Nd} {nd:Nd} {d:Pr} {k:Nat} {a8:OA} {n9:Nat} {n10:Nat} {x11:Int} {H:KH} (u:Nat) (at1:Nat) (a1:OA) (c1:Nat) (nodes1:List Nd) (nx1:Int) (e1:Int) (kcs:List Value) (h0:x11=u) (h1:u<=d.right.length) (h2:k=d.right.length-u) (h3:n9<=u) (h4:MkT Z H p g tb tc la lc ls at1 a1 c1 nodes1 nx1 e1 (⟨1,a8,n9,n10,kcs⟩ :: R)) (h5:nodes.length+1<=nodes1.length) (h6:nodes1.length<=2000) (h7:at1<=ls.length) (h8:e1=0->n9=u/\(∃ v,nodes1=nodes++nd :: v/\Fo g.prods (d.right.take u) v)/\lvs nodes1=ls.take at1):I42 Z p tc lc j g tb la ls R nodes nd d k p 0 (((j:Nat):Int)) (((nodes.length:Nat):Int)) a8 n9 n10 x11 H:=⟨⟨rfl,rfl,rfl,rfl⟩,u,at1,a1,c1,nodes1,nx1,e1,kcs,h0,h1,h2,h3,h4,h5,h6,h7,h8⟩
end Go.Ew
namespace Go.Proofs.Ytefiipkfppaibaa
open Go.Ev Go.Ew
namespace Va
section
variable (ok : EnvOk (env Try.prog))
include ok
def SyD (m:Nat):Prop:=∀ {Z H:KH} {p:Nat} {g:Gm} {tb:OA} {tc:Nat} {la:OA} {lc:Nat} {ls:List Lf} {at_:Nat} {a:OA} {c:Nat} {nodes:List Nd} {nx:Int} {R:List Rr} {s:Sy} {Q:PQ},
 Sit Z g tb la ls->MkT Z H p g tb tc la lc ls at_ a c nodes nx 0 R->SyOk g s->at_<=ls.length->nodes.length<=2000->2001<=nodes.length+m->lvs nodes=ls.take at_->SyQ Z p g tb tc la lc ls R s nodes Q->
 Does (env Try.prog) 42 [.pointer (some ⟨p,0,none⟩),.agg #[.bool s.tok,.int .i64 s.pos]] H Q
omit ok in
theorem j42_1 {Z H:KH} {p:Nat} {g:Gm} {tb:OA} {tc:Nat} {la:OA} {lc:Nat} {ls:List Lf} {at1:Nat} {a1:OA} {c1:Nat} {nodes1:List Nd} {nx1 e1:Int} {R:List Rr} {ka:OA} {kn kc pl:Nat} {kcs:List Value} {Q:PQ}
 (h:MkT Z H p g tb tc la lc ls at1 a1 c1 nodes1 nx1 e1 (⟨1,ka,kn,kc,kcs⟩ :: R)) (hp:pl<nodes1.length)
 (hq:∀ H',MkT Z H' p g tb tc la lc ls at1 a1 c1 (nodes1.set pl (setK nodes1[pl] ka kn kc)) nx1 e1 R->Q (.int .i64 ((pl:Nat):Int)) H') :
 vc42_J1 H p 0 ((pl:Nat):Int) ka kn kc Q:=by
 unfold vc42_J1
 have h':=h
 unfold MkT at h'
 rw [nd_cut hp] at h'
 obtain ⟨b,o,e,f1,f2,f3⟩:=h'.write (vs:=[.slice ka kn kc]) rfl (by rw [List.length_append,List.length_append]; show 0<_+1+_; omega)
 rw [nd_xs hp,<- Nat.add_assoc] at f1 f3
 have ep:Int.toNat ((pl:Nat):Int)=pl:=by omega
 refine ⟨rfl,rfl,a1,nodes1.length,c1,Ps.ld h (k:=6) rfl,⟨by omega,by omega⟩,b,o,e,rfl,⟨[.slice nodes1[pl].ka nodes1[pl].kn nodes1[pl].kc],rfl,by rw [ep]; exact f1⟩,f2,hq _ ?_⟩
 rw [ep]
 unfold MkT
 rw [List.length_set,nd_set hp]
 exact (f3.perm (List.Perm.swap _ _ _)).tail
omit ok in
theorem l42_3 {m:Nat} (ih:SyD m) {Z H:KH} {p:Nat} {g:Gm} {tb:OA} {tc:Nat} {la:OA} {lc:Nat} {ls:List Lf} {at_:Nat} {a a6:OA} {c j n7 n8:Nat} {nodes:List Nd} {nx x9:Int} {R:List Rr} {s:Sy} {nd:Nd} {Q:PQ}
 (st:Sit Z g tb la ls) (hj:j<g.prods.length) (hs:s.tok=false) (hd:g.prods[j].left=s.pos) (hnd:nd.prod=((j:Nat):Int))
 (h:MkT Z ((H.put ⟨p,0+6+0,none⟩ [.slice a6 n7 n8]).put ⟨p,0+6+1,none⟩ [.int .i64 (IntKind.wrap .i64 (x9+1))]) p g tb tc la lc ls at_ a c (nodes++[nd]) nx 0 R)
 (hat:at_<=ls.length) (hn:nodes.length+1<=2000) (hf:2001<=nodes.length+1+m) (hL:lvs (nodes++[nd])=ls.take at_) (hq:SyQ Z p g tb tc la lc ls R s nodes Q) :
 vc42_L3 p 0 ((j:Nat):Int) ((nodes.length:Nat):Int) H a6 n7 n8 x9 Q:=by
 have gz:=st.gi
 have pi:=(gz.pi j hj).1
 have po:=st.hm.pr j hj
 have si:=SymsIn.of st.hm hj
 have hP:=st.hm.p
 have hb:=po.b
 have ej:Int.toNat ((j:Nat):Int)=j:=by omega
 have len1:(nodes++[nd]).length=nodes.length+1:=List.length_append
 unfold vc42_L3
 refine ⟨I42 Z p tc lc j g tb la ls R nodes nd g.prods[j],⟨g.prods[j].right.length,rfl,I42.mk 0 at_ a c (nodes++[nd]) nx 0 [] rfl (by omega) rfl (by omega) ((h.none_ (sz:=1)).perm (List.Perm.swap _ _ _)) (by omega) (by omega) hat fun _=>⟨rfl,⟨[],rfl,.nil⟩,hL⟩⟩,?_⟩
 clear h hL
 rintro k n4 n5 x6 x7 a8 n9 n10 x11 H12 ⟨⟨rfl,rfl,rfl,rfl⟩,u,at1,a1,c1,nodes1,nx1,e1,kcs,rfl,hu,rfl,h9,h,l1,l2,hat1,he⟩
 have lZ:=h.r.le
 obtain ⟨b1,o1,ha1,r1⟩:=pr_ld (gz.up lZ).p hj
 have fin:(e1=0->u=g.prods[j].right.length)->vc42_J1 H12 p 0 ((nodes.length:Nat):Int) a8 n9 n10 Q:=fun hu'=>by
  refine j42_1 h (by omega) fun H' h'=>hq H' at1 a1 c1 _ nx1 e1 _ h' (by rw [List.length_set]; omega) (by rw [List.length_set]; omega) hat1 fun e0=>?_
  obtain ⟨q1,⟨v,q2,q3⟩,q4⟩:=he e0
  have hu':=hu' e0
  subst q2
  have eg:(nodes++nd :: v)[nodes.length]'(by omega)=nd:=by rw [List.getElem_append_right (Nat.le_refl _)]; simp only [Nat.sub_self,List.getElem_cons_zero]
  have es:(nodes++nd :: v).set nodes.length (setK nd a8 n9 n10)=nodes++setK nd a8 n9 n10 :: v:=by rw [List.set_append_right _ _ (Nat.le_refl _),Nat.sub_self,List.set_cons_zero]
  rw [eg,es]
  refine ⟨rfl,⟨_,rfl,?_⟩,?_⟩
  .rw [hu',List.take_length] at q3
   have:=Fo.nt (G:=g.prods) (s:=s) (r:=[]) (n:=setK nd a8 n9 n10) (w:=[]) (p:=g.prods[j]) hs (by show 0<=nd.prod; omega) (by show g.prods[nd.prod.toNat]? = _; rw [hnd,ej]; exact List.getElem?_eq_getElem hj) hd (by show n9=_; omega) q3 .nil
   rw [List.append_nil] at this
   exact this
  .rw [<- q4,lvs_app,lvs_app]; rfl
 refine ⟨rfl,rfl,g.pa,g.prods.length,g.pc,h.ld (k:=2) rfl,⟨by omega,by omega⟩,b1,o1,ha1,rfl,g.prods[j].ra,g.prods[j].right.length,g.prods[j].rc,by rw [ej]; exact ldSub (m:=1) r1 1 (by simp),fun z=>⟨rfl,e1,h.ld (k:=8) rfl,fun z0=>?_,fun z0=>fin fun e0=>absurd e0 (of_decide_eq_false z0)⟩,fun z=>fin fun _=>by have:=of_decide_eq_false z; omega⟩
 have z:u<g.prods[j].right.length:=by have:=of_decide_eq_true z; omega
 have e0:e1=0:=of_decide_eq_true z0
 subst e0
 obtain ⟨q1,⟨v,q2,q3⟩,q4⟩:=he rfl
 obtain ⟨b2,o2,ha2,r2⟩:=sy_ld pi z
 have eu:Int.toNat ((u:Nat):Int)=u:=by omega
 have hu1:IntKind.wrap .i64 (((u:Nat):Int)+1)=((u+1:Nat):Int):=by rw [wrap64 (by omega) (by omega)]; omega
 unfold vc42_J0
 rw [hu1]
 refine ⟨rfl,rfl,g.pa,g.prods.length,g.pc,h.ld (k:=2) rfl,⟨by omega,by omega⟩,b1,o1,ha1,rfl,g.prods[j].ra,g.prods[j].right.length,g.prods[j].rc,by rw [ej]; exact ldSub (m:=1) r1 1 (by simp),⟨by omega,by omega⟩,b2,o2,ha2,_,_,by rw [eu]; exact lZ.ld r2,?_⟩
 refine ih st h (si _ (List.getElem_mem z)) hat1 l2 (by omega) q4 fun H14 at2 a2 c2 nodes2 nx2 e2 x h2 m1 m2 hat2 he2=>⟨x,rfl,rfl,e2,h2.ld (k:=8) rfl,fun zz=>?_,fun zz=>⟨_,by omega,rfl,I42.mk (u+1) at2 a2 c2 nodes2 nx2 e2 kcs rfl (by omega) rfl (by omega) h2 (by omega) m2 hat2 fun e0=>absurd e0 (of_decide_eq_false zz)⟩⟩
 have e20:e2=0:=of_decide_eq_true zz
 obtain ⟨w1,⟨v2,w2,w3⟩,w4⟩:=he2 e20
 subst w1
 have lt2:nodes1.length<nodes2.length:=by rw [w2,List.length_append]; have:=w3.pos; omega
 obtain ⟨b3,o3,ha3,r3⟩:=nd_ld h2.r.head.row lt2
 have en:Int.toNat ((nodes1.length:Nat):Int)=nodes1.length:=by omega
 refine ⟨rfl,rfl,a2,nodes2.length,c2,h2.ld (k:=6) rfl,⟨by omega,by omega⟩,b3,o3,ha3,rfl,(nodes2[nodes1.length]).id,by rw [en]; exact ldSub (m:=1) r3 0 (by simp),fun n23 h23 n24 h24=>⟨1,[.int .i64 (nodes2[nodes1.length]).id],knew_of (ti:=tiI) (lit_kold (if_pos rfl) rfl),?_⟩⟩
 obtain ⟨a',c',H',f1,f2⟩:=((h2.new h23).perm (List.Perm.swap _ _ _)).app (ti:=tiI) (nm:=n24) (m:=1) (new:=[.int .i64 (nodes2[nodes1.length]).id]) h24 rfl rfl (by show n9+1<=_; omega) (by decide) (by decide)
 refine ⟨a',_,c',H',f1,g.prods[j].right.length-(u+1),by omega,rfl,I42.mk (u+1) at2 a2 c2 nodes2 nx2 e2 _ rfl (by omega) rfl (by show n9+1<=_; omega) (f2.perm (List.Perm.swap _ _ _)) (by omega) m2 hat2 fun _=>⟨by show n9+1=_; omega,⟨v++v2,?_,?_⟩,w4⟩⟩
 .rw [w2,q2,List.append_assoc,List.cons_append]
 .rw [List.take_succ_eq_append_getElem z]
  exact q3.app w3
omit ok in
theorem j42_4 {m:Nat} (ih:SyD m) {Z H:KH} {p:Nat} {g:Gm} {tb:OA} {tc:Nat} {la:OA} {lc:Nat} {ls:List Lf} {at_:Nat} {a:OA} {c:Nat} {nodes:List Nd} {nx:Int} {R:List Rr} {s:Sy} {Q:PQ} {prod kind:Int} {text:ByteArray}
 (st:Sit Z g tb la ls) (h:MkT Z H p g tb tc la lc ls at_ a c nodes nx 0 R) (hat:at_<=ls.length) (hn:nodes.length+1<=2000) (hf:2001<=nodes.length+1+m)
 (hL:lvs (nodes++[⟨nx,prod,kind,text,none,0,0⟩])=ls.take at_) (ht:s.tok=true->prod<0/\kind=s.pos) (hp:s.tok=false->∃ j:Nat,∃ hj:j<g.prods.length,prod=((j:Nat):Int)/\g.prods[j].left=s.pos) (hq:SyQ Z p g tb tc la lc ls R s nodes Q) :
 vc42_J4 H p 0 nx prod kind text none 0 0 s.tok Q ((nodes.length:Nat):Int):=by
 unfold vc42_J4
 refine ⟨trivial,rfl,rfl,a,nodes.length,c,Ps.ld h (k:=6) rfl,fun n4 h4 n5 h5=>⟨1,[.int .i64 nx,.int .i64 prod,.int .i64 kind,.string text,.slice none 0 0],knew_of (ti:=tiNd) (lit_kold (if_pos rfl) rfl),?_⟩⟩
 obtain ⟨a',c',H',f1,f2⟩:=(h.new h4).app (ti:=tiNd) (nm:=n5) (m:=1) (new:=[.int .i64 nx,.int .i64 prod,.int .i64 kind,.string text,.slice none 0 0]) h5 rfl rfl (by show nodes.length+1<=_; omega) (by decide) (by decide)
 have p1:=f2.put (k:=6) (v:=.slice a' (nodes.length+1) c') (by show 6<9; decide)
 have p2:=p1.put (k:=7) (v:=.int .i64 (IntKind.wrap .i64 (nx+1))) (by show 7<9; decide)
 have h2:MkT Z ((H'.put ⟨p,6,none⟩ [.slice a' (nodes.length+1) c']).put ⟨p,7,none⟩ [.int .i64 (IntKind.wrap .i64 (nx+1))]) p g tb tc la lc ls at_ a' c' (nodes++[⟨nx,prod,kind,text,none,0,0⟩]) (IntKind.wrap .i64 (nx+1)) 0 R:=by
  unfold MkT
  rw [List.length_append,ndC_app]
  exact p2
 have len1:(nodes++[(⟨nx,prod,kind,text,none,0,0⟩:Nd)]).length=nodes.length+1:=List.length_append
 refine ⟨a',_,c',H',f1,⟨rfl,trivial⟩,rfl,rfl,⟨[.slice a nodes.length c],rfl,f2.ld (k:=6) rfl⟩,f2.may,trivial,rfl,rfl,nx,p1.ld (k:=7) rfl,rfl,rfl,⟨[.int .i64 nx],rfl,p1.ld (k:=7) rfl⟩,p1.may,fun z=>?_,fun z=>?_⟩
 .obtain ⟨w1,w2⟩:=ht z
  exact hq _ at_ a' c' _ _ 0 _ h2 (by omega) (by omega) hat fun _=>⟨rfl,⟨_,rfl,.tok z w1 w2 rfl .nil⟩,hL⟩
 .obtain ⟨j,hj,w1,w2⟩:=hp z
  subst w1
  exact l42_3 ih st hj z w2 rfl h2 hat hn hf hL hq
omit ok in
theorem j42_6 {m:Nat} (ih:SyD m) {Z H:KH} {p:Nat} {g:Gm} {tb:OA} {tc:Nat} {la:OA} {lc:Nat} {ls:List Lf} {at_:Nat} {a:OA} {c:Nat} {nodes:List Nd} {nx:Int} {R:List Rr} {s:Sy} {Q:PQ} {prod kind:Int}
 (st:Sit Z g tb la ls) (h:MkT Z H p g tb tc la lc ls at_ a c nodes nx 0 R) (hat:at_<=ls.length) (hn:nodes.length<=2000) (hf:2001<=nodes.length+(m+1))
 (hL:lvs nodes=ls.take at_) (ht:s.tok=true->prod = -1/\kind=s.pos/\∃ h:at_<ls.length,kind=ls[at_].kind) (hp:s.tok=false->∃ j:Nat,∃ hj:j<g.prods.length,prod=((j:Nat):Int)/\g.prods[j].left=s.pos) (hq:SyQ Z p g tb tc la lc ls R s nodes Q) :
 vc42_J6 H p 0 Q s.tok prod kind:=by
 have hl:=st.l40
 have lZ:=h.r.le
 unfold vc42_J6
 refine ⟨rfl,rfl,a,nodes.length,c,Ps.ld h (k:=6) rfl,fun z=>⟨rfl,⟨[.int .i64 0],rfl,Ps.ld h (k:=8) rfl⟩,h.may,hq _ at_ a c nodes nx 3 0 (h.put (k:=8) (v:=.int .i64 3) (by show 8<9; decide)) (Nat.le_refl _) hn hat (fun q=>absurd q (by decide))⟩,fun z=>⟨rfl,rfl,a,nodes.length,c,Ps.ld h (k:=6) rfl,rfl,rfl,nx,Ps.ld h (k:=7) rfl,fun y=>?_,fun y=>?_⟩⟩
 .have z:nodes.length<2000:=by have:=of_decide_eq_false z; omega
  obtain ⟨w1,w2,w3,w4⟩:=ht y
  obtain ⟨b,o,e,r⟩:=lf_ld st.l w3
  have eat:Int.toNat ((at_:Nat):Int)=at_:=by omega
  have ea1:IntKind.wrap .i64 (((at_:Nat):Int)+1)=((at_+1:Nat):Int):=by rw [wrap64 (by omega) (by omega)]; omega
  have rt:ld H ⟨b,o+Int.toNat ((at_:Nat):Int)*2+1,none⟩ [.string (ls[at_]).text]:=by rw [eat]; exact lZ.ld (ldSub (m:=1) r 1 (by simp))
  refine ⟨trivial,rfl,la,ls.length,lc,Ps.ld h (k:=4) rfl,rfl,_,Ps.ld h (k:=5) rfl,⟨by omega,by omega⟩,b,o,e,rfl,_,rt,⟨rfl,rfl,⟨rfl,rfl⟩,⟨_,_,_,Ps.ld h (k:=4) rfl,rfl⟩,rfl,rfl,⟨rfl,rfl⟩,⟨_,Ps.ld h (k:=5) rfl,rfl⟩,⟨⟨by omega,by omega⟩,b,o,e,rfl⟩,⟨rfl,rfl⟩,⟨_,rt,rfl⟩,trivial⟩,trivial,rfl,_,Ps.ld h (k:=5) rfl,rfl,⟨[.int .i64 ((at_:Nat):Int)],rfl,Ps.ld h (k:=5) rfl⟩,h.may,?_⟩
  rw [ea1]
  have p1:MkT Z (H.put ⟨p,5,none⟩ [.int .i64 ((at_+1:Nat):Int)]) p g tb tc la lc ls (at_+1) a c nodes nx 0 R:=h.put (k:=5) (v:=.int .i64 ((at_+1:Nat):Int)) (by show 5<9; decide)
  refine j42_4 ih st p1 (by omega) (by omega) (by omega) ?_ (fun _=>⟨by omega,w2⟩) (fun q=>by rw [y] at q; cases q) hq
  rw [lvs_app,hL,List.take_succ_eq_append_getElem w3]
  congr 1
  show (if prod<0 then _ else _)=_
  rw [if_pos (by omega),w4]
  rfl
 .have z:nodes.length<2000:=by have:=of_decide_eq_false z; omega
  refine j42_4 ih st h hat (by omega) (by omega) ?_ (fun q=>by rw [y] at q; cases q) hp hq
  obtain ⟨j,hj,w1,w2⟩:=hp y
  rw [lvs_app,hL]
  show _++(if prod<0 then _ else _)=_
  rw [if_neg (by omega)]
  exact List.append_nil _
omit ok in
theorem j42_7 {m:Nat} (ih:SyD m) {Z H:KH} {p:Nat} {g:Gm} {tb:OA} {tc:Nat} {la:OA} {lc:Nat} {ls:List Lf} {at_:Nat} {a:OA} {c:Nat} {nodes:List Nd} {nx:Int} {R:List Rr} {s:Sy} {Q:PQ} {prod kind:Int}
 (st:Sit Z g tb la ls) (h:MkT Z H p g tb tc la lc ls at_ a c nodes nx 0 R) (hat:at_<=ls.length) (hn:nodes.length<=2000) (hf:2001<=nodes.length+(m+1))
 (hL:lvs nodes=ls.take at_) (hk:∀ h:at_<ls.length,kind=ls[at_].kind) (ht:s.tok=true->prod = -1) (hp:s.tok=false->prod = -1\/∃ j:Nat,∃ hj:j<g.prods.length,prod=((j:Nat):Int)/\g.prods[j].left=s.pos) (hq:SyQ Z p g tb tc la lc ls R s nodes Q) :
 vc42_J7 s.tok H p 0 Q kind s.pos prod:=by
 have bad:(none:Option Nat)=none/\(∃ l5:List Value,l5.length=[Value.int .i64 9].length/\ld H ⟨p,0+8,none⟩ l5)/\KH.may H p/\Q (.int .i64 0) (H.put ⟨p,0+8,none⟩ [.int .i64 9]) :=
  ⟨rfl,⟨[.int .i64 0],rfl,Ps.ld h (k:=8) rfl⟩,h.may,hq _ at_ a c nodes nx 9 0 (h.put (k:=8) (v:=.int .i64 9) (by show 8<9; decide)) (Nat.le_refl _) hn hat (fun q=>absurd q (by decide))⟩
 unfold vc42_J7
 refine ⟨trivial,fun y=>⟨rfl,_,Ps.ld h (k:=5) rfl,rfl,la,ls.length,lc,Ps.ld h (k:=4) rfl,fun _=>bad,fun z=>⟨fun _=>bad,fun w=>⟨fun u=>(by rw [y] at u; cases u),fun _=>?_⟩⟩⟩,fun y=>⟨fun u=>⟨fun _=>bad,fun z=>?_⟩,fun u=>(by rw [y] at u; cases u)⟩⟩
 .have z:at_<ls.length:=by have:=of_decide_eq_false z; omega
  have w:kind=s.pos:=Decidable.not_not.1 (of_decide_eq_false w)
  exact j42_6 ih st h hat hn hf hL (fun _=>⟨ht y,w,z,hk z⟩) (fun q=>by rw [y] at q; cases q) hq
 .have z:0<=prod:=by have:=of_decide_eq_false z; omega
  exact j42_6 ih st h hat hn hf hL (fun q=>by rw [y] at q; cases q) (fun q=>(hp q).elim (fun e=>by omega) id) hq
omit ok in
theorem j42_8 {m:Nat} (ih:SyD m) {Z H:KH} {p:Nat} {g:Gm} {tb:OA} {tc:Nat} {la:OA} {lc:Nat} {ls:List Lf} {at_:Nat} {a:OA} {c:Nat} {nodes:List Nd} {nx:Int} {R:List Rr} {s:Sy} {Q:PQ} {kind:Int}
 (st:Sit Z g tb la ls) (h:MkT Z H p g tb tc la lc ls at_ a c nodes nx 0 R) (hs:SyOk g s) (hat:at_<=ls.length) (hn:nodes.length<=2000) (hf:2001<=nodes.length+(m+1))
 (hL:lvs nodes=ls.take at_) (hk:∀ h:at_<ls.length,kind=ls[at_].kind) (hq:SyQ Z p g tb tc la lc ls R s nodes Q) :
 vc42_J8 s.tok kind H p 0 s.pos Q:=by
 have lZ:=h.r.le
 have no:vc42_J7 s.tok H p 0 Q kind s.pos (-1):=j42_7 ih st h hat hn hf hL hk (fun _=>rfl) (fun _=>.inl rfl) hq
 unfold vc42_J8
 refine ⟨trivial,fun y=>⟨fun z=>?_,fun _=>no⟩,fun _=>no⟩
 have y:s.tok=false:=by cases q:s.tok<;>rw [q] at y<;>first | rfl | cases y
 have z:0<=kind:=of_decide_eq_true z
 have hpos:=hs.2.2 y
 have hpos0:=hs.1
 obtain ⟨l,hl,hk2,hrow⟩:=st.tab.ex
 obtain ⟨b,o,e,r⟩:=it_ld (k:=1) (f:=fun x:Hd=>[.slice x.a (g.toks.length+1) x.c]) (fun _=>rfl) (l:=l) (by rw [hl]; exact hk2) (i:=s.pos.toNat) (by omega)
 obtain ⟨row,hr,hkr,hv⟩:=(hrow s.pos.toNat (by omega)).ex
 have yes:∀ w:kind<((g.toks.length+1:Nat):Int),True/\(none:Option Nat)=none/\∃ a13:OA,∃ n14 n15:Nat,ld H ⟨p,0+3,none⟩ [.slice a13 n14 n15]/\(0<=s.pos/\s.pos<((n14:Nat):Int))/\∃ n16 n17:Nat,a13=some ⟨n16,n17,none⟩/\∃ a18:OA,∃ n19 n20:Nat,ld H ⟨n16,n17+Int.toNat s.pos*1,none⟩ [.slice a18 n19 n20]/\(0<=kind/\kind<((n19:Nat):Int))/\∃ n21 n22:Nat,a18=some ⟨n21,n22,none⟩/\∃ x23:Int,ld H ⟨n21,n22+Int.toNat kind*1,none⟩ [.int .i64 x23]/\vc42_J7 s.tok H p 0 Q kind s.pos x23:=fun w=>by
  obtain ⟨b2,o2,e2,r2⟩:=in_ld (l:=row) (by rw [hr]; exact hkr) (i:=kind.toNat) (by omega)
  refine ⟨trivial,rfl,tb,g.nts.length,tc,Ps.ld h (k:=3) rfl,⟨hpos0,hpos⟩,b,o,e,_,_,_,lZ.ld r,⟨z,w⟩,b2,o2,e2,_,lZ.ld r2,j42_7 ih st h hat hn hf hL hk (fun q=>by rw [y] at q; cases q) (fun _=>?_) hq⟩
  rcases hv _ (List.getElem_mem (by omega:kind.toNat<row.length)) with q | ⟨j,hj,q1,q2⟩
  .exact .inl q
  .exact .inr ⟨j,hj,q1,by rw [q2]; omega⟩
 refine ⟨rfl,tb,g.nts.length,tc,Ps.ld h (k:=3) rfl,⟨hpos0,hpos⟩,b,o,e,_,_,_,lZ.ld r,fun w=>⟨rfl,_,Ps.ld h (k:=5) rfl,rfl,la,ls.length,lc,Ps.ld h (k:=4) rfl,fun _=>yes (of_decide_eq_true w),fun _=>⟨rfl,rfl,g.ta,g.toks.length,g.tc,Ps.ld h (k:=0) rfl,fun _=>yes (of_decide_eq_true w),fun _=>no⟩⟩,fun _=>no⟩
theorem c42 (m:Nat):SyD m:=by
 induction m with
 | zero=>intro Z H p g tb tc la lc ls at_ a c nodes nx R s Q st h hs hat hn hf; omega
 | succ m ih =>
   intro Z H p g tb tc la lc ls at_ a c nodes nx R s Q st h hs hat hn hf hL hq
   have lZ:=h.r.le
   have eat:Int.toNat ((at_:Nat):Int)=at_:=by omega
   refine fn42 ok ⟨rfl,0,Ps.ld h (k:=8) rfl,fun z=>absurd rfl (of_decide_eq_true z),fun _=>⟨rfl,rfl,g.ta,g.toks.length,g.tc,Ps.ld h (k:=0) rfl,trivial,rfl,_,Ps.ld h (k:=5) rfl,rfl,la,ls.length,lc,Ps.ld h (k:=4) rfl,fun y=>?_,fun y=>?_⟩⟩
   .have y:at_<ls.length:=by have:=of_decide_eq_true y; omega
    obtain ⟨b,o,e,r⟩:=lf_ld st.l y
    refine ⟨trivial,rfl,la,ls.length,lc,Ps.ld h (k:=4) rfl,rfl,_,Ps.ld h (k:=5) rfl,⟨by omega,by omega⟩,b,o,e,rfl,(ls[at_]).kind,?_,j42_8 ih st h hs hat hn hf hL (fun _=>rfl) hq⟩
    rw [eat]
    exact lZ.ld (ldSub (m:=1) r 0 (by simp))
   .have y:ls.length<=at_:=by have:=of_decide_eq_false y; omega
    exact j42_8 ih st h hs hat hn hf hL (fun q=>absurd q (by omega)) hq
end
end Va
end Go.Proofs.Ytefiipkfppaibaa
namespace Go.Ew
open Go.Ev Go.Deep
def noT:Value:=.agg #[.slice none 0 0,.int .i64 0]
end Go.Ew
namespace Go.Proofs.Ytefiipkfppaibaa
open Go.Ev Go.Ew
namespace Va
section
variable (ok : EnvOk (env Try.prog))
include ok
omit ok in
theorem j22_1 {Z H:KH} {p:Nat} {g:Gm} {tb:OA} {tc:Nat} {la:OA} {lc:Nat} {ls:List Lf} {at_:Nat} {a:OA} {c:Nat} {nodes:List Nd} {nx e:Int} {R:List Rr} {Q:PQ}
 (h:MkT Z H p g tb tc la lc ls at_ a c nodes nx e R) (h1:e=0->Q (.tuple #[.agg #[.slice a nodes.length c,.int .i64 nx],.int .i64 0,.int .i64 0]) H) (h2:∀ x y,y≠0->Q (.tuple #[noT,.int .i64 x,.int .i64 y]) H):vc22_J1 H p Q:=by
 unfold vc22_J1
 have f8:ld H ⟨p,0+8,none⟩ [.int .i64 e]:=Ps.ld h (k:=8) rfl
 have f5:ld H ⟨p,0+5,none⟩ [.int .i64 ((at_:Nat):Int)]:=Ps.ld h (k:=5) rfl
 refine ⟨rfl,e,f8,fun z=>⟨trivial,rfl,_,f5,rfl,_,f8,⟨rfl,rfl,⟨rfl,rfl⟩,⟨_,f5,rfl⟩,rfl,rfl,⟨rfl,rfl⟩,⟨_,f8,rfl⟩,trivial⟩,h2 _ _ ?_⟩,fun _=>⟨rfl,e,f8,fun z=>⟨trivial,rfl,_,f8,⟨rfl,rfl,⟨rfl,rfl⟩,⟨_,f8,rfl⟩,trivial⟩,h2 _ _ ?_⟩,fun z=>⟨rfl,a,nodes.length,c,nx,Ps.ldn h 6 2 (by show 8<=9; decide),h1 ?_⟩⟩⟩
 .have:=of_decide_eq_true z; omega
 .exact of_decide_eq_true z
 .exact Decidable.not_not.1 (of_decide_eq_false z)
theorem c22 {H:KH} {g:Gm} {tb:OA} {tc:Nat} {la:OA} {lc:Nat} {ls:List Lf} {Q:PQ} (st:Sit H g tb la ls)
 (h1:∀ nodes a c nx H',Le H H'->kold H' 5 a nodes.length=some (ndC nodes)->nodes.length<=2000->Fo g.prods [⟨false,0⟩] nodes->lvs nodes=ls->Q (.tuple #[.agg #[.slice a nodes.length c,.int .i64 nx],.int .i64 0,.int .i64 0]) H')
 (h2:∀ x y H',Le H H'->y≠0->Q (.tuple #[noT,.int .i64 x,.int .i64 y]) H') :
 Does (env Try.prog) 22 [gv g,.slice tb g.nts.length tc,.slice la ls.length lc,.int .i64 1] H Q:=by
 have hN:=st.hm.n
 refine fn22 ok ⟨fun z=>absurd (of_decide_eq_true z) (by decide),fun _=>c40 ok st.gi st.hm.few fun b H2 l2 hb=>⟨b,rfl,fun z=>?_,fun z n1 e1=>?_⟩⟩
 .rw [hb.2 st.hm] at z; cases z
 have s2:Sit H2 g tb la ls:=⟨st.gi.up l2,st.hm,st.tab.up l2,l2.kold st.l,st.li,st.l40⟩
 have k0:Ps H2 (H2.new n1 (mkEnt (mkC g tb la tc ls.length lc 0 none 0 0 0 0) 0)) n1 (mkC g tb la tc ls.length lc 0 none 0 0 0 0) [⟨5,none,0,0,ndC []⟩] :=
  ⟨(Rws.nil (Le.new e1) e1).none_,_,new_self,rfl,mk_rd⟩
 have k1:MkT H2 ((H2.new n1 (mkEnt (mkC g tb la tc ls.length lc 0 none 0 0 0 0) 0)).put ⟨n1,7,none⟩ [.int .i64 1]) n1 g tb tc la lc ls 0 none 0 [] 1 0 []:=k0.put (k:=7) (v:=.int .i64 1) (by show 7<9; decide)
 refine ⟨rfl,rfl,⟨[.int .i64 0],rfl,k0.ld (k:=7) rfl⟩,k0.may,c42 ok 2001 (s:=⟨false,0⟩) s2 k1 ⟨Int.le_refl _,fun q=>(by cases q),fun _=>by show (0:Int)<_; omega⟩ (Nat.zero_le _) (Nat.zero_le _) (by show 2001<=0+2001; decide) rfl fun H' at' a' c' nodes' nx' e' x h l1 l3 hat he=>⟨x,rfl,rfl,e',Ps.ld h (k:=8) rfl,fun z=>⟨rfl,_,Ps.ld h (k:=5) rfl,fun y=>?_,fun y=>?_⟩,fun z=>?_⟩⟩
 .have h':MkT H2 (H'.put ⟨n1,8,none⟩ [.int .i64 9]) n1 g tb tc la lc ls at' a' c' nodes' nx' 9 []:=h.put (k:=8) (v:=.int .i64 9) (by show 8<9; decide)
  exact ⟨rfl,⟨[.int .i64 e'],rfl,Ps.ld h (k:=8) rfl⟩,h.may,j22_1 h' (fun q=>absurd q (by decide)) fun x y hy=>h2 x y _ (l2.trans h'.r.le) hy⟩
 .have y:ls.length<=at':=by have:=of_decide_eq_false y; omega
  obtain ⟨_,⟨v,w2,w3⟩,w4⟩:=he (of_decide_eq_true z)
  refine j22_1 h (fun q=>h1 nodes' a' c' nx' H' (l2.trans h.r.le) h.r.head.row l3 ?_ ?_) fun x y hy=>h2 x y _ (l2.trans h.r.le) hy
  .rw [w2]; exact w3
  .rw [w4,List.take_of_length_le y]
 .exact j22_1 h (fun q=>absurd q (of_decide_eq_false z)) fun x y hy=>h2 x y _ (l2.trans h.r.le) hy
theorem c43 {H:KH} {a:OA} {c:Nat} {x:Int} {nodes:List Nd} {Q:PQ} (k:kold H 5 a nodes.length=some (ndC nodes)) (hn:nodes.length<=2000)
 (hq:∀ a c H',Le H H'->kold H' 2 a (lvs nodes).length=some (lfC (lvs nodes))->Q (.slice a (lvs nodes).length c) H') :
 Does (env Try.prog) 43 [.agg #[.slice a nodes.length c,.int .i64 x]] H Q:=by
 refine fn43 ok ?_
 unfold vc43
 show vc43_L1 _ _ _ _ _ _
 unfold vc43_L1
 refine ⟨fun k a4 n5 n6 x7 a8 n9 n10 x11 H12=>(a=a4/\nodes.length=n5/\c=n6/\x=x7)/\∃ i:Nat,x11=i/\i<=nodes.length/\k=nodes.length-i/\n9=(lvs (nodes.take i)).length/\Rwz H H12 [⟨2,a8,n9,n10,lfC (lvs (nodes.take i))⟩],⟨nodes.length,⟨rfl,rfl,rfl,rfl⟩,0,rfl,by omega,rfl,rfl,(Rwz.nil (Le.refl H)).none_⟩,?_⟩
 rintro k' a4 n5 n6 x7 a8 n9 n10 x11 H12 ⟨⟨rfl,rfl,rfl,rfl⟩,i,rfl,hi,rfl,rfl,w⟩
 refine ⟨fun z=>?_,fun z=>?_⟩
 .have z:i<nodes.length:=by have:=of_decide_eq_true z; omega
  have ei:Int.toNat ((i:Nat):Int)=i:=by omega
  have hi1:IntKind.wrap .i64 (((i:Nat):Int)+1)=((i+1:Nat):Int):=by rw [wrap64 (by omega) (by omega)]; omega
  have hle:=lvs_len (nodes.take i)
  have htl:(nodes.take i).length<=i:=List.length_take_le _ _
  obtain ⟨b,o,e,r⟩:=nd_ld k z
  have r:=w.le.ld r
  have et:lvs (nodes.take (i+1))=lvs (nodes.take i)++lvs [nodes[i]]:=by rw [List.take_succ_eq_append_getElem z,lvs_app]
  rw [ei,hi1]
  refine ⟨⟨by omega,by omega⟩,b,o,e,rfl,_,ldSub (m:=1) r 1 (by simp),fun y=>⟨trivial,⟨by omega,by omega⟩,b,o,e,rfl,_,ldSub (m:=1) r 2 (by simp),⟨by omega,by omega⟩,b,o,e,rfl,_,ldSub (m:=1) r 3 (by simp),fun n10' h10 n11 h11=>⟨1,[.int .i64 (nodes[i]).kind,.string (nodes[i]).text],knew_of (ti:=tiLf) (lit_kold (if_pos rfl) rfl),?_⟩⟩,fun y=>?_⟩
  .have y:=of_decide_eq_true y
   have e1:lvs [nodes[i]]=[⟨(nodes[i]).kind,(nodes[i]).text⟩]:=by rw [lvs,if_pos y]; rfl
   obtain ⟨a',c',H',f1,f2⟩:=(w.new h10).app (ti:=tiLf) (nm:=n11) (m:=1) (new:=[.int .i64 (nodes[i]).kind,.string (nodes[i]).text]) h11 rfl rfl (by show (lvs (nodes.take i)).length+1<=_; omega) (by decide) (by decide)
   refine ⟨a',_,c',H',f1,trivial,nodes.length-(i+1),by omega,⟨rfl,rfl,rfl,rfl⟩,i+1,rfl,z,rfl,by rw [et,e1,List.length_append]; rfl,?_⟩
   rw [et,e1,lfC_app]
   exact f2
  .have y:=of_decide_eq_false y
   have e1:lvs [nodes[i]]=[]:=by rw [lvs,if_neg y]; rfl
   refine ⟨nodes.length-(i+1),by omega,⟨rfl,rfl,rfl,rfl⟩,i+1,rfl,z,rfl,by rw [et,e1,List.append_nil],?_⟩
   rw [et,e1,List.append_nil]
   exact w
 .have z:i=nodes.length:=by have:=of_decide_eq_false z; omega
  subst z
  rw [List.take_length] at w ⊢
  exact hq _ _ _ w.le w.head.row
end
end Va
end Go.Proofs.Ytefiipkfppaibaa
namespace Go.Ew
open Go.Ev Go.Deep
def endN (l:List Nd) (i:Nat):Nat:=i+wk 1 (l.drop i)
theorem wk_cons (k:Nat) (n:Nd) (l:List Nd):wk (k+1) (n :: l)=wk (k+n.kn) l+1:=rfl
theorem endN_at {l:List Nd} {i:Nat} (h:i<l.length):wk 1 (l.drop i)=wk (l[i]).kn (l.drop (i+1))+1:=by
 rw [List.drop_eq_getElem_cons h]
 show wk (0+_) _+1=_
 rw [Nat.zero_add]
theorem endN_le {l:List Nd} {i:Nat} (h:i<l.length):i<endN l i/\endN l i<=l.length:=by
 unfold endN
 have h1:=endN_at h
 have h2:=wk_le 1 (l.drop i)
 rw [List.length_drop] at h2
 omega
theorem one_int (n:Nat):lrep [.int .i64 0] n=inC ((List.range n).map fun _=>(0:Int)):=by
 rw [fam_rep (h:=fun _=>[Value.int .i64 0]) fun _ _=>rfl]
 unfold famC inC
 induction (List.range n) with
 | nil=>rfl
 | cons x l ih=>rw [List.flatMap_cons,ih]; rfl
theorem inC_set (l:List Int) (i:Nat) (v:Int):(inC l).set i (.int .i64 v)=inC (l.set i v):=by
 unfold inC
 rw [List.map_set]
theorem famC_succ (h:Int->List Value) (n:Nat):famC h (n+1)=famC h n++h (n:Int):=by
 unfold famC
 rw [List.range_succ,List.flatMap_append]
 congr 1
 show h _++[]=_
 rw [List.append_nil]
def spH (l:List Nd) (i:Int):List Value:=[.int .i64 (((lvs (l.take i.toNat)).length:Nat):Int),.int .i64 (((lvs (l.take (endN l i.toNat))).length:Nat):Int)]
theorem spH_len (l:List Nd) (i:Int):(spH l i).length=2:=rfl
def tiSp:TI:=⟨2,16,true,2,3,2,[],[.int .i64 0,.int .i64 0]⟩
theorem lvs_next {l:List Nd} {i:Nat} (h:i<l.length):(lvs (l.take (i+1))).length=(lvs (l.take i)).length+if (l[i]).prod<0 then 1 else 0:=by
 rw [List.take_succ_eq_append_getElem h,lvs_app,List.length_append,lvs]
 split<;>rfl
theorem lvs_take_len (l:List Nd) (i:Nat):(lvs (l.take i)).length<=i:=Nat.le_trans (lvs_len _) (List.length_take_le _ _)
end Go.Ew
namespace Go.Proofs.Ytefiipkfppaibaa
open Go.Ev Go.Ew
namespace Va
section
variable (ok : EnvOk (env Try.prog))
include ok
omit ok in
theorem l63b {H H14:KH} {nodes:List Nd} {a:OA} {c n1 i n:Nat} {x:Int} {es:List Int} {J:(Nat->(OA->(Nat->(Nat->(Int->(OA->(Nat->(Nat->(Int->(KH->Prop))))))))))}
 (k:kold H 5 a nodes.length=some (ndC nodes)) (hn:nodes.length<=2000) (hk:∀ y∈nodes,y.kn<=5) (hi:i<nodes.length) (w:Ps H H14 n1 (inC es) []) (hes:es.length=nodes.length)
 (hJ:∀ H',Ps H H' n1 (inC (es.set i ((endN nodes i:Nat):Int))) []->∃ n4,n4<n/\J n4 a nodes.length c x (some ⟨n1,0,none⟩) nodes.length nodes.length ((i+1:Nat):Int) H') :
 vc63_L2 a nodes.length c x (some ⟨n1,0,none⟩) nodes.length nodes.length ((i:Nat):Int) (nodes[i]).kn H14 n J:=by
 have ei:Int.toNat ((i:Nat):Int)=i:=by omega
 have hi1:IntKind.wrap .i64 (((i:Nat):Int)+1)=((i+1:Nat):Int):=by rw [wrap64 (by omega) (by omega)]; omega
 have fin:vc63_J1 ((i:Nat):Int) nodes.length (some ⟨n1,0,none⟩) ((endN nodes i:Nat):Int) H14 n J a nodes.length c x nodes.length:=by
  unfold vc63_J1
  have e0:0+Int.toNat ((i:Nat):Int)*1=i:=by omega
  have p1:=w.put (k:=i) (v:=.int .i64 ((endN nodes i:Nat):Int)) (by rw [inC_len]; omega)
  rw [inC_set] at p1
  have hl:(inC es)[i]? = some (.int .i64 (es[i]'(by omega))):=by
   unfold inC
   rw [List.getElem?_map,List.getElem?_eq_getElem (by omega)]
   rfl
  refine ⟨⟨by omega,by omega⟩,n1,0,rfl,⟨[.int .i64 (es[i]'(by omega))],rfl,by rw [e0]; exact w.ld hl⟩,w.may,?_⟩
  rw [e0,hi1]
  exact hJ _ p1
 unfold vc63_L2
 refine ⟨fun k a4 n5 n6 x7 a8 n9 n10 x11 x12 x13 H'=>(a=a4/\nodes.length=n5/\c=n6/\x=x7/\some ⟨n1,0,none⟩=a8/\nodes.length=n9/\nodes.length=n10/\((i:Nat):Int)=x11/\H14=H')/\∃ need q:Nat,x12=need/\x13=(i+1+q:Nat)/\wk need (nodes.drop (i+1+q))+q+1=wk 1 (nodes.drop i)/\i+1+q<=nodes.length/\need<=5*(q+1)/\k=nodes.length-(i+1+q),⟨_,⟨rfl,rfl,rfl,rfl,rfl,rfl,rfl,rfl,rfl⟩,(nodes[i]).kn,0,rfl,hi1,by rw [endN_at hi],by omega,hk _ (List.getElem_mem hi),rfl⟩,?_⟩
 rintro k' a4 n5 n6 x7 a8 n9 n10 x11 x12 x13 H' ⟨⟨rfl,rfl,rfl,rfl,rfl,rfl,rfl,rfl,rfl⟩,need,q,rfl,rfl,hw,hq,hneed,rfl⟩
 refine ⟨fun z=>⟨fun y=>?_,fun y=>?_⟩,fun z=>?_⟩
 .have z:0<need:=by have:=of_decide_eq_true z; omega
  have y:i+1+q<nodes.length:=by have:=of_decide_eq_true y; omega
  obtain ⟨b,o,e,r⟩:=nd_ld k y
  have eq1:Int.toNat ((i+1+q:Nat):Int)=i+1+q:=by omega
  have hk1:=hk _ (List.getElem_mem y)
  have r:=w.r.le.ld r
  have w1:IntKind.wrap .i64 (((i+1+q:Nat):Int)+1)=((i+1+(q+1):Nat):Int):=by rw [wrap64 (by omega) (by omega)]; omega
  have w2:IntKind.wrap .i64 (IntKind.wrap .i64 (((need:Nat):Int)-1)+(((nodes[i+1+q]).kn:Nat):Int))=((need-1+(nodes[i+1+q]).kn:Nat):Int):=by rw [wrap64 (x:=((need:Nat):Int)-1) (by omega) (by omega),wrap64 (by omega) (by omega)]; omega
  refine ⟨⟨by omega,by omega⟩,b,o,e,rfl,_,_,_,by rw [eq1]; exact ldSub (m:=1) r 4 (by simp),nodes.length-(i+1+(q+1)),by omega,⟨rfl,rfl,rfl,rfl,rfl,rfl,rfl,rfl,rfl⟩,need-1+(nodes[i+1+q]).kn,q+1,w2,w1,?_,by omega,by omega,rfl⟩
  rw [<- hw,List.drop_eq_getElem_cons y,show need=(need-1)+1 by omega,wk_cons,show need-1+1-1=need-1 by omega]
  show wk _ (nodes.drop (i+1+q+1))+_+1=_
  omega
 .have y:i+1+q=nodes.length:=by have:=of_decide_eq_false y; omega
  have:((i+1+q:Nat):Int)=((endN nodes i:Nat):Int):=by
   unfold endN
   rw [<- hw,List.drop_eq_nil_of_le (by omega),wk_nil]
   omega
  rw [this]
  exact fin
 .have z:need=0:=by have:=of_decide_eq_false z; omega
  have:((i+1+q:Nat):Int)=((endN nodes i:Nat):Int):=by
   unfold endN
   rw [<- hw,z,wk_zero]
   omega
  rw [this]
  exact fin
theorem c63 {H:KH} {a:OA} {c:Nat} {x:Int} {nodes:List Nd} {Q:PQ} (k:kold H 5 a nodes.length=some (ndC nodes)) (hn:nodes.length<=2000) (hk:∀ y∈nodes,y.kn<=5)
 (hq:∀ (es:List Int) b c H',Le H H'->es.length=nodes.length->kold H' 1 b es.length=some (inC es)->(∀ i (h:i<es.length),es[i]=((endN nodes i:Nat):Int))->Q (.slice b es.length c) H') :
 Does (env Try.prog) 63 [.agg #[.slice a nodes.length c,.int .i64 x]] H Q:=by
 refine fn63 ok ⟨⟨by omega,by omega,by omega⟩,fun n1 h1=>?_⟩
 have eN:Int.toNat ((nodes.length:Nat):Int)=nodes.length:=by omega
 unfold vc63_L3
 rw [eN,one_int]
 have w0:Ps H (H.new n1 (mkEnt (inC ((List.range nodes.length).map fun _=>(0:Int))) 0)) n1 (inC ((List.range nodes.length).map fun _=>(0:Int))) []:=⟨.nil (Le.new h1) h1,_,new_self,rfl,mk_rd⟩
 refine ⟨fun k a4 n5 n6 x7 a8 n9 n10 x11 H12=>(a=a4/\nodes.length=n5/\c=n6/\x=x7/\some ⟨n1,0,none⟩=a8/\nodes.length=n9/\nodes.length=n10)/\∃ (i:Nat) (es:List Int),x11=i/\i<=nodes.length/\k=nodes.length-i/\es.length=nodes.length/\Ps H H12 n1 (inC es) []/\∀ j (h:j<es.length),j<i->es[j]=((endN nodes j:Nat):Int),⟨nodes.length,⟨rfl,rfl,rfl,rfl,rfl,rfl,rfl⟩,0,_,rfl,by omega,rfl,by rw [List.length_map,List.length_range],w0,fun j h hj=>absurd hj (by omega)⟩,?_⟩
 clear w0
 rintro k' a4 n5 n6 x7 a8 n9 n10 x11 H12 ⟨⟨rfl,rfl,rfl,rfl,rfl,rfl,rfl⟩,i,es,rfl,hi,rfl,hes,w,hv⟩
 refine ⟨fun z=>?_,fun z=>?_⟩
 .have z:i<nodes.length:=by have:=of_decide_eq_true z; omega
  have ei:Int.toNat ((i:Nat):Int)=i:=by omega
  obtain ⟨b,o,e,r⟩:=nd_ld k z
  refine ⟨⟨by omega,by omega⟩,b,o,e,rfl,_,_,_,by rw [ei]; exact w.r.le.ld (ldSub (m:=1) r 4 (by simp)),l63b k hn hk z w hes fun H' w'=>⟨nodes.length-(i+1),by omega,⟨rfl,rfl,rfl,rfl,rfl,rfl,rfl⟩,i+1,_,rfl,z,rfl,by rw [List.length_set,hes],w',fun j h hj=>?_⟩⟩
  by_cases q:j=i
  .subst q; rw [List.getElem_set_self]
  .rw [List.getElem_set_ne (fun z=>q z.symm)]; exact hv j _ (by omega)
 .have z:i=nodes.length:=by have:=of_decide_eq_false z; omega
  obtain ⟨e,f1,f2,f3⟩:=w.e
  have kk:kold H12 1 (some ⟨n1,0,none⟩) es.length=some (inC es):=kold_some.2 ⟨e,f1,by rw [Nat.mul_one]; rw [inC_len] at f3; exact f3⟩
  have:=hq es (some ⟨n1,0,none⟩) nodes.length H12 w.r.le hes kk fun j h=>hv j h (by omega)
  rw [hes] at this
  exact this
omit ok in
theorem l44b {H H':KH} {nodes:List Nd} {a a8 a11:OA} {c i n n10 n13:Nat} {x:Int} {es:List Int} {J:(Nat->(OA->(Nat->(Nat->(Int->(OA->(Nat->(Nat->(OA->(Nat->(Nat->(Int->(KH->Prop)))))))))))))}
 (k:kold H 5 a nodes.length=some (ndC nodes)) (hn:nodes.length<=2000) (ke:kold H 1 a11 es.length=some (inC es)) (hes:es.length=nodes.length) (he:∀ i (h:i<es.length),es[i]=((endN nodes i:Nat):Int)) (hi:i<nodes.length)
 (w:Rwz H H' [⟨2,a8,i,n10,famC (spH nodes) i⟩])
 (hJ:∀ b m H'',Rwz H H'' [⟨2,b,i+1,m,famC (spH nodes) (i+1)⟩]->∃ n4,n4<n/\J n4 a nodes.length c x b (i+1) m a11 es.length n13 ((i+1:Nat):Int) H'') :
 vc44_L2 a nodes.length c x a8 i n10 a11 es.length n13 ((i:Nat):Int) H' n J:=by
 have ei:Int.toNat ((i:Nat):Int)=i:=by omega
 have hi1:IntKind.wrap .i64 (((i:Nat):Int)+1)=((i+1:Nat):Int):=by rw [wrap64 (by omega) (by omega)]; omega
 obtain ⟨hE1,hE2⟩:=endN_le hi
 unfold vc44_L2
 refine ⟨fun k a4 n5 n6 x7 b8 m9 m10 b11 n12 m13 x14 x15 x16 x17 H18=>(a=a4/\nodes.length=n5/\c=n6/\x=x7/\a8=b8/\i=m9/\n10=m10/\a11=b11/\es.length=n12/\n13=m13/\((i:Nat):Int)=x14/\H'=H18)/\∃ q:Nat,x17=q/\q<=endN nodes i/\k=endN nodes i-q/\x15=(((lvs (nodes.take (min q i))).length:Nat):Int)/\x16=(((lvs (nodes.take q)).length:Nat):Int),⟨endN nodes i,⟨rfl,rfl,rfl,rfl,rfl,rfl,rfl,rfl,rfl,rfl,rfl,rfl⟩,0,rfl,by omega,rfl,by rw [Nat.zero_min]; rfl,rfl⟩,?_⟩
 rintro k' a4 n5 n6 x7 b8 m9 m10 b11 n12 m13 x14 x15 x16 x17 H18 ⟨⟨rfl,rfl,rfl,rfl,rfl,rfl,rfl,rfl,rfl,rfl,rfl,rfl⟩,q,rfl,hq,rfl,rfl,rfl⟩
 obtain ⟨b,o,e,r⟩:=in_ld ke (i:=i) (by omega)
 rw [he i (by omega)] at r
 refine ⟨⟨by omega,by omega⟩,b,o,e,_,by rw [ei]; exact w.le.ld r,fun z=>?_,fun z=>?_⟩
 .have z:q<endN nodes i:=by have:=of_decide_eq_true z; omega
  have hql:q<nodes.length:=by omega
  have eq0:Int.toNat ((q:Nat):Int)=q:=by omega
  obtain ⟨b2,o2,e2,r2⟩:=nd_ld k hql
  have l1:=lvs_take_len nodes (min q i)
  have l2:=lvs_take_len nodes q
  have wq:IntKind.wrap .i64 (((q:Nat):Int)+1)=((q+1:Nat):Int):=by rw [wrap64 (by omega) (by omega)]; omega
  have wt:IntKind.wrap .i64 ((((lvs (nodes.take q)).length:Nat):Int)+1)=(((lvs (nodes.take q)).length+1:Nat):Int):=by rw [wrap64 (by omega) (by omega)]; omega
  have wf:IntKind.wrap .i64 ((((lvs (nodes.take (min q i))).length:Nat):Int)+1)=(((lvs (nodes.take (min q i))).length+1:Nat):Int):=by rw [wrap64 (by omega) (by omega)]; omega
  have nx:=lvs_next hql
  rw [wq,wt,wf]
  refine ⟨⟨by omega,by omega⟩,b2,o2,e2,rfl,_,by rw [eq0]; exact w.le.ld (ldSub (m:=1) r2 1 (by simp)),fun y=>⟨fun y2=>?_,fun y2=>?_⟩,fun y=>?_⟩
  .have y:=of_decide_eq_true y
   have y2:q<i:=by have:=of_decide_eq_true y2; omega
   refine ⟨endN nodes i-(q+1),by omega,⟨rfl,rfl,rfl,rfl,rfl,rfl,rfl,rfl,rfl,rfl,rfl,rfl⟩,q+1,rfl,z,rfl,?_,?_⟩
   .rw [Nat.min_eq_left (by omega),Nat.min_eq_left (by omega),nx,if_pos y]
   .rw [nx,if_pos y]
  .have y:=of_decide_eq_true y
   have y2:i<=q:=by have:=of_decide_eq_false y2; omega
   refine ⟨endN nodes i-(q+1),by omega,⟨rfl,rfl,rfl,rfl,rfl,rfl,rfl,rfl,rfl,rfl,rfl,rfl⟩,q+1,rfl,z,rfl,?_,?_⟩
   .rw [Nat.min_eq_right (by omega),Nat.min_eq_right (by omega)]
   .rw [nx,if_pos y]
  .have y:=of_decide_eq_false y
   refine ⟨endN nodes i-(q+1),by omega,⟨rfl,rfl,rfl,rfl,rfl,rfl,rfl,rfl,rfl,rfl,rfl,rfl⟩,q+1,rfl,z,rfl,?_,?_⟩
   .by_cases y2:q<i
    .rw [Nat.min_eq_left (by omega),Nat.min_eq_left (by omega),nx,if_neg y]; rfl
    .rw [Nat.min_eq_right (by omega),Nat.min_eq_right (by omega)]
   .rw [nx,if_neg y]; rfl
 .have z:q=endN nodes i:=by have:=of_decide_eq_false z; omega
  subst z
  rw [Nat.min_eq_right (by omega)]
  intro n1 h1 n2 h2
  refine ⟨1,spH nodes ((i:Nat):Int),knew_of (ti:=tiSp) (lit_kold ?_ rfl),?_⟩
  .unfold spH
   rw [ei]
   exact if_pos rfl
  obtain ⟨a',c',H'',f1,f2⟩:=(w.new h1).app (ti:=tiSp) (nm:=n2) (m:=1) (new:=spH nodes ((i:Nat):Int)) h2 rfl rfl (by show i+1<=_; omega) (by decide) (by decide)
  refine ⟨a',_,c',H'',f1,?_⟩
  rw [hi1]
  refine hJ a' c' H'' ?_
  rw [famC_succ]
  exact f2
theorem c44 {H:KH} {a:OA} {c:Nat} {x:Int} {nodes:List Nd} {Q:PQ} (k:kold H 5 a nodes.length=some (ndC nodes)) (hn:nodes.length<=2000) (hk:∀ y∈nodes,y.kn<=5)
 (hq:∀ b c H',Le H H'->kold H' 2 b nodes.length=some (famC (spH nodes) nodes.length)->Q (.slice b nodes.length c) H') :
 Does (env Try.prog) 44 [.agg #[.slice a nodes.length c,.int .i64 x]] H Q:=by
 refine fn44 ok (c63 ok k hn hk fun es b c' H2 l2 hes ke he=>⟨b,_,c',rfl,?_⟩)
 have k2:=l2.kold k
 unfold vc44_L3
 refine ⟨fun k a4 n5 n6 x7 a8 n9 n10 a11 n12 n13 x14 H15=>(a=a4/\nodes.length=n5/\c=n6/\x=x7/\b=a11/\es.length=n12/\c'=n13)/\∃ i:Nat,x14=i/\i<=nodes.length/\k=nodes.length-i/\n9=i/\Rwz H2 H15 [⟨2,a8,i,n10,famC (spH nodes) i⟩],⟨nodes.length,⟨rfl,rfl,rfl,rfl,rfl,rfl,rfl⟩,0,rfl,by omega,rfl,rfl,(Rwz.nil (Le.refl _)).none_⟩,?_⟩
 rintro k' a4 n5 n6 x7 a8 n9 n10 a11 n12 n13 x14 H15 ⟨⟨rfl,rfl,rfl,rfl,rfl,rfl,rfl⟩,i,rfl,hi,rfl,rfl,w⟩
 refine ⟨fun z=>?_,fun z=>?_⟩
 .have z:n9<nodes.length:=by have:=of_decide_eq_true z; omega
  exact l44b k2 hn ke hes he z w fun b' m H'' w'=>⟨nodes.length-(n9+1),by omega,⟨rfl,rfl,rfl,rfl,rfl,rfl,rfl⟩,n9+1,rfl,z,rfl,rfl,w'⟩
 .have z:n9=nodes.length:=by have:=of_decide_eq_false z; omega
  subst z
  exact hq a8 n10 H15 (l2.trans w.le) w.head.row
end
end Va
end Go.Proofs.Ytefiipkfppaibaa
namespace Go.Ew
open Go.Ev Go.Deep
theorem Fo.kn5 {G:List Pr} {r:List Sy} {w:List Nd} (h:Fo G r w) (hG:∀ p∈G,p.right.length<=5):∀ n∈w,n.kn<=5:=by
 induction h with
 | nil=>intro n hn; cases hn
 | tok h1 h2 h3 h4 h ih =>
   intro n hn
   rcases List.mem_cons.1 hn with rfl | hn
   .omega
   .exact ih n hn
 | nt h1 h2 h3 h4 h5 hv h ih1 ih2 =>
   intro n hn
   rcases List.mem_cons.1 hn with rfl | hn
   .rw [h5]; exact hG _ (List.mem_of_getElem? h3)
   .rcases List.mem_append.1 hn with hn | hn
    .exact ih1 n hn
    .exact ih2 n hn
structure Stn (G:List Pr) (M:Int) (A B:Nat) (L:List Lf) (x:Int):Prop where
 le:A<=B
 lt:B<=L.length
 nul:A=B->Nul G x
 fst:∀ h:A<L.length,A<B->Fst G x (L[A]).kind
 flw:∀ h:B<L.length,Flw G M x (L[B]).kind
 end_:L.length<=B->Flw G M x M
theorem at0 {L l:List Lf} {y:Lf} (e:L=y :: l) {h:0<L.length}:L[0]=y:=by
 subst e; rfl
theorem Fo.stn {G:List Pr} {M:Int} {nodes:List Nd} (hF:Fo G [⟨false,0⟩] nodes) {i:Nat} (hi:i<nodes.length) (hp:0<=(nodes[i]).prod):∃ h:(nodes[i]).prod.toNat<G.length,Stn G M (lvs (nodes.take i)).length (lvs (nodes.take (endN nodes i))).length (lvs nodes) (G[(nodes[i]).prod.toNat]).left:=by
 have e0:nodes=nodes.take i++nodes[i] :: nodes.drop (i+1):=by rw [<- List.drop_eq_getElem_cons hi,List.take_append_drop]
 obtain ⟨p,v,c,e1,e2,e3,e4,e5,e6⟩:=hF.at_ (M:=M) (fun t=>t=M) (FolAt.top G M) _ _ _ e0 hp
 obtain ⟨hlt,ep⟩:=List.getElem?_eq_some_iff.1 e2
 refine ⟨hlt,?_⟩
 rw [ep]
 have hpm:p∈G:=List.mem_of_getElem? e2
 have lt:(nodes.take i).length=i:=by rw [List.length_take]; omega
 have hE:endN nodes i=i+(v.length+1):=by
  unfold endN
  rw [endN_at hi,e3,e1]
  have:=e4.wk 0 c
  rw [Nat.add_zero,wk_zero,Nat.add_zero] at this
  rw [this]
 have eT:nodes.take (endN nodes i)=nodes.take i++nodes[i] :: v:=by
  have:nodes=(nodes.take i++nodes[i] :: v)++c:=by rw [List.append_assoc,List.cons_append,<- e1]; exact e0
  have q:=congrArg (List.take (endN nodes i)) this
  rw [List.take_left' (by rw [List.length_append,lt,List.length_cons,hE])] at q
  exact q
 have l0:∀ w,lvs (nodes[i] :: w)=lvs w:=fun w=>by rw [lvs,if_neg (by omega)]
 have l1:lvs (nodes.take (endN nodes i))=lvs (nodes.take i)++lvs v:=by rw [eT,lvs_app,l0]
 have l2:lvs nodes=lvs (nodes.take i)++(lvs v++lvs c):=by
  have q:=congrArg lvs e0
  rw [lvs_app,l0,e1,lvs_app] at q
  exact q
 rw [l1]
 generalize lvs (nodes.take i)=A at *
 rw [l2]
 clear l2 l1 eT e0
 obtain ⟨g1,g2⟩:=e4.fst
 refine ⟨by simp,by simp,fun h=>?_,fun h h'=>?_,fun h=>?_,fun h=>?_⟩
 .refine NulR.left hpm (g2 ?_)
  rw [List.length_append] at h
  exact List.eq_nil_of_length_eq_zero (by omega)
 .rw [List.getElem_append_right (Nat.le_refl _)]
  simp only [Nat.sub_self]
  obtain ⟨y,l,hv⟩:∃ y l,lvs v=y :: l:=List.exists_cons_of_length_pos (by rw [List.length_append] at h'; omega)
  rw [at0 (show lvs v++lvs c=y :: (l++lvs c) by rw [hv]; rfl)]
  exact FstR.left hpm (g1 y l hv)
 .rw [List.getElem_append_right (by simp)]
  have hlen:(A++lvs v).length-A.length=(lvs v).length:=by rw [List.length_append]; omega
  simp only [hlen]
  rw [List.getElem_append_right (Nat.le_refl _)]
  simp only [Nat.sub_self]
  obtain ⟨y,l,hc⟩:∃ y l,lvs c=y :: l:=List.exists_cons_of_length_pos (by rw [List.length_append,List.length_append,List.length_append] at h; omega)
  rw [at0 hc]
  exact e5 y l hc
 .refine e6 ?_ M rfl
  rw [List.length_append,List.length_append,List.length_append] at h
  exact List.eq_nil_of_length_eq_zero (by omega)
def I23 (g:Gm) (H:KH) (nodes:List Nd) (a a2 a3 a4 aL aS:OA) (c c2 c3 c4 cL cS:Nat) (x:Int) (k:Nat) (b4:OA) (n5:Nat) (n6:Nat) (b7:OA) (n8:Nat) (n9:Nat) (b10:OA) (n11:Nat) (n12:Nat) (b13:OA) (n14:Nat) (n15:Nat) (b16:OA) (n17:Nat) (n18:Nat) (b19:OA) (n20:Nat) (n21:Nat) (b22:OA) (n23:Nat) (n24:Nat) (x25:Int) (b26:OA) (n27:Nat) (n28:Nat) (b29:OA) (n30:Nat) (n31:Nat) (x32:Int) (H33:KH):Prop:=(((a2:OA)=b4)/\((g.nts.length:Nat)=n5)/\((c2:Nat)=n6)/\((a3:OA)=b7)/\((g.nts.length:Nat)=n8)/\((c3:Nat)=n9)/\((a4:OA)=b10)/\((g.nts.length:Nat)=n11)/\((c4:Nat)=n12)/\((g.ta:OA)=b13)/\((g.toks.length:Nat)=n14)/\((g.tc:Nat)=n15)/\((g.na:OA)=b16)/\((g.nts.length:Nat)=n17)/\((g.nc:Nat)=n18)/\((g.pa:OA)=b19)/\((g.prods.length:Nat)=n20)/\((g.pc:Nat)=n21)/\((a:OA)=b22)/\((nodes.length:Nat)=n23)/\((c:Nat)=n24)/\((x:Int)=x25)/\((aL:OA)=b26)/\(((lvs nodes).length:Nat)=n27)/\((cL:Nat)=n28)/\((aS:OA)=b29)/\((nodes.length:Nat)=n30)/\((cS:Nat)=n31)/\((H:KH)=H33))/\∃ i:Nat,(x32=i)/\(i<=nodes.length)/\(k=nodes.length-i)
theorem I23.mk {g:Gm} {H:KH} {nodes:List Nd} {a a2 a3 a4 aL aS:OA} {c c2 c3 c4 cL cS:Nat} {x:Int} {k:Nat} {x32:Int} (i:Nat) (h0:x32=i) (h1:i<=nodes.length) (h2:k=nodes.length-i):I23 g H nodes a a2 a3 a4 aL aS c c2 c3 c4 cL cS x k a2 g.nts.length c2 a3 g.nts.length c3 a4 g.nts.length c4 g.ta g.toks.length g.tc g.na g.nts.length g.nc g.pa g.prods.length g.pc a nodes.length c x aL ((lvs nodes).length) cL aS nodes.length cS x32 H:=⟨⟨rfl,rfl,rfl,rfl,rfl,rfl,rfl,rfl,rfl,rfl,rfl,rfl,rfl,rfl,rfl,rfl,rfl,rfl,rfl,rfl,rfl,rfl,rfl,rfl,rfl,rfl,rfl,rfl,rfl⟩,i,h0,h1,h2⟩
end Go.Ew
namespace Go.Proofs.Ytefiipkfppaibaa
open Go.Ev Go.Ew
namespace Va
section
variable (ok : EnvOk (env Try.prog))
include ok
omit ok in
theorem j23_0 {x t:Int} {N M:Nat} {aO:OA} {H:KH} {fl:Int->Int->Bool} {y6:PQ} {y7:Nat} {y8:(Nat->(OA->(Nat->(Nat->(OA->(Nat->(Nat->(OA->(Nat->(Nat->(OA->(Nat->(Nat->(OA->(Nat->(Nat->(OA->(Nat->(Nat->(OA->(Nat->(Nat->(Int->(OA->(Nat->(Nat->(OA->(Nat->(Nat->(Int->(KH->Prop)))))))))))))))))))))))))))))))} {y9:OA} {y10:Nat} {y11:Nat} {y12:OA} {y13:Nat} {y14:Nat} {y15:Nat} {y16:OA} {y17:Nat} {y18:Nat} {y19:OA} {y20:Nat} {y21:Nat} {y22:OA} {y23:Nat} {y24:Nat} {y25:OA} {y26:Nat} {y27:Nat} {y28:Int} {y29:OA} {y30:Nat} {y31:Nat} {y32:OA} {y33:Nat} {y34:Nat} {y35:Int} (hx:0<=x) (hN:x<(N:Nat)) (kO:RowsB H aO N (M+1) fl) (hv:fl x t=true) (t0:0<=t) (tM:t<=(M:Nat)) (next:∃ n9,n9<y7/\y8 n9 y9 y10 y11 y12 y13 y14 aO N y15 y16 y17 y18 y19 y20 y21 y22 y23 y24 y25 y26 y27 y28 y29 y30 y31 y32 y33 y34 (IntKind.wrap .i64 (y35+1)) H) :
 vc23_J0 (x) (N) (aO) (H) (t) y6 y7 y8 y9 y10 y11 y12 y13 y14 y15 y16 y17 y18 y19 y20 y21 y22 y23 y24 y25 y26 y27 y28 y29 y30 y31 y32 y33 y34 y35:=by
 obtain ⟨b,o,a',c',e,r,k⟩:=kO.at_ (i:=x.toNat) (by omega)
 obtain ⟨b2,o2,e2,r2⟩:=fam_ld (k:=1) (bit1_len _) k (i:=t.toNat) (by omega)
 have ex:((x.toNat:Nat):Int)=x:=by omega
 have et:((t.toNat:Nat):Int)=t:=by omega
 unfold bit1 at r2
 rw [ex,et,hv] at r2
 unfold vc23_J0
 exact ⟨⟨hx,hN⟩,b,o,e,a',_,c',r,⟨t0,by omega⟩,b2,o2,e2,true,r2,fun z=>(by cases z),fun _=>next⟩
omit ok in
theorem j23_1 {i:Nat} {nodes:List Nd} {aS aL aO:OA} {H:KH} {x:Int} {N M:Nat} {G:List Pr} {fl:Int->Int->Bool} {y10:PQ} {y11:Nat} {y12:(Nat->(OA->(Nat->(Nat->(OA->(Nat->(Nat->(OA->(Nat->(Nat->(OA->(Nat->(Nat->(OA->(Nat->(Nat->(OA->(Nat->(Nat->(OA->(Nat->(Nat->(Int->(OA->(Nat->(Nat->(OA->(Nat->(Nat->(Int->(KH->Prop)))))))))))))))))))))))))))))))} {y13:OA} {y14:Nat} {y15:Nat} {y16:OA} {y17:Nat} {y18:Nat} {y19:Nat} {y20:OA} {y22:Nat} {y23:OA} {y24:Nat} {y25:Nat} {y26:OA} {y27:Nat} {y28:Nat} {y29:OA} {y30:Nat} {y31:Nat} {y32:Int} {y33:Nat} {y34:Nat} (hx:0<=x) (hN:x<(N:Nat)) (hn:nodes.length<=2000) (hi:i<nodes.length) (kS:kold H 2 aS nodes.length=some (famC (spH nodes) nodes.length)) (kL:kold H 2 aL (lvs nodes).length=some (lfC (lvs nodes))) (li:LfIn M (lvs nodes)) (kO:RowsB H aO N (M+1) fl) (hl:IsL G (M:Nat) fl) (st:Stn G (M:Nat) (lvs (nodes.take i)).length (lvs (nodes.take (endN nodes i))).length (lvs nodes) x) (next:∃ n9,n9<y11/\y12 n9 y13 y14 y15 y16 y17 y18 aO N y19 y20 (M) y22 y23 y24 y25 y26 y27 y28 y29 y30 y31 y32 (aL) ((lvs nodes).length) y33 (aS) (nodes.length) y34 ((i+1:Nat):Int) H) :
 vc23_J1 (((i:Nat):Int)) (nodes.length) (aS) (H) ((lvs nodes).length) (aL) (x) (N) (aO) y10 y11 y12 y13 y14 y15 y16 y17 y18 y19 y20 (M) y22 y23 y24 y25 y26 y27 y28 y29 y30 y31 y32 y33 y34:=by
 obtain ⟨b,o,e,r⟩:=fam_ld (k:=2) (spH_len nodes) kS hi
 have ei:Int.toNat ((i:Nat):Int)=i:=by omega
 have hi1:IntKind.wrap .i64 (((i:Nat):Int)+1)=((i+1:Nat):Int):=by rw [wrap64 (by omega) (by omega)]; omega
 unfold spH at r
 rw [ei] at r
 have r1:=ldSub (m:=1) r 1 (by simp)
 have next':∃ n9,n9<y11/\y12 n9 y13 y14 y15 y16 y17 y18 aO N y19 y20 (M) y22 y23 y24 y25 y26 y27 y28 y29 y30 y31 y32 (aL) ((lvs nodes).length) y33 (aS) (nodes.length) y34 (IntKind.wrap .i64 (((i:Nat):Int)+1)) H:=by rw [hi1]; exact next
 have o1:Int.toNat (1:Int)*1=1:=rfl
 have n01:((0:Int)<=1)/\((1:Int)<((2:Nat):Int)):=⟨by decide,by decide⟩
 unfold vc23_J1
 rw [ei,o1]
 refine ⟨⟨by omega,by omega⟩,b,o,e,n01,rfl,_,r1,fun z=>?_,fun z=>?_⟩
 .have z:(lvs (nodes.take (endN nodes i))).length<(lvs nodes).length:=by have:=of_decide_eq_true z; omega
  obtain ⟨b2,o2,e2,r2⟩:=lf_ld kL z
  have et:Int.toNat (((lvs (nodes.take (endN nodes i))).length:Nat):Int)=(lvs (nodes.take (endN nodes i))).length:=by omega
  have lk:=li _ (List.getElem_mem z)
  refine ⟨⟨by omega,by omega⟩,b,o,e,n01,rfl,_,r1,⟨by omega,by omega⟩,b2,o2,e2,rfl,_,by rw [et]; exact ldSub (m:=1) r2 0 (by simp),?_⟩
  exact j23_0 hx hN kO ((hl _ _).2 (st.flw z)) lk.1 (by omega) next'
 .have z:(lvs nodes).length<=(lvs (nodes.take (endN nodes i))).length:=by have:=of_decide_eq_false z; omega
  exact j23_0 hx hN kO ((hl _ _).2 (st.end_ z)) (by omega) (Int.le_refl _) next'
theorem c23 {H:KH} {g:Gm} {nodes:List Nd} {a a2 a3 a4:OA} {c c2 c3 c4:Nat} {x:Int} {nl:Int->Bool} {fs fl:Int->Int->Bool} {Q:PQ} (gi:GI H g) (hm:MayG g) (k:kold H 5 a nodes.length=some (ndC nodes)) (hn:nodes.length<=2000) (hF:Fo g.prods [⟨false,0⟩] nodes) (li:LfIn g.toks.length (lvs nodes))
 (k2:RowsB H a2 g.nts.length g.toks.length fs) (i2:IsF g.prods fs) (k3:kold H 1 a3 g.nts.length=some (famC (bit1 nl) g.nts.length)) (i3:IsN g.prods nl) (k4:RowsB H a4 g.nts.length (g.toks.length+1) fl) (i4:IsL g.prods (g.toks.length:Nat) fl)
 (hq:∀ H',Le H H'->Q (.bool true) H') :
 Does (env Try.prog) 23 [gv g,.agg #[.slice a nodes.length c,.int .i64 x],.slice a2 g.nts.length c2,.slice a3 g.nts.length c3,.slice a4 g.nts.length c4] H Q:=by
 have hT:=hm.t
 have hkn:∀ y∈nodes,y.kn<=5:=hF.kn5 fun p hp=>by
  obtain ⟨j,hj,e⟩:=List.mem_iff_getElem.1 hp
  rw [<- e]; exact (hm.pr j hj).b
 refine fn23 ok ⟨fun z=>absurd rfl (of_decide_eq_true z),fun _=>⟨trivial,c43 ok k hn fun aL cL H2 l2 kL=>⟨aL,_,cL,rfl,⟨rfl,trivial⟩,c44 ok (l2.kold k) hn hkn fun aS cS H7 l7 kS=>⟨aS,_,cS,rfl,trivial,?_⟩⟩⟩⟩
 have l27:=l2.trans l7
 have gi:=gi.up l27
 have k:=l27.kold k
 have k2:=k2.up l27
 have k3:=l27.kold k3
 have k4:=k4.up l27
 have kL:=l7.kold kL
 have hq:=hq H7 l27
 clear l2 l7 l27
 unfold vc23_L5
 refine ⟨I23 g H7 nodes a a2 a3 a4 aL aS c c2 c3 c4 cL cS x,⟨nodes.length,I23.mk 0 rfl (by omega) rfl⟩,?_⟩
 rintro k' b4 n5 n6 b7 n8 n9 b10 n11 n12 b13 n14 n15 b16 n17 n18 b19 n20 n21 b22 n23 n24 x25 b26 n27 n28 b29 n30 n31 x32 H33 ⟨⟨rfl,rfl,rfl,rfl,rfl,rfl,rfl,rfl,rfl,rfl,rfl,rfl,rfl,rfl,rfl,rfl,rfl,rfl,rfl,rfl,rfl,rfl,rfl,rfl,rfl,rfl,rfl,rfl,rfl⟩,i,rfl,hi,rfl⟩
 refine ⟨fun z=>?_,fun _=>hq⟩
 have z:i<nodes.length:=by have:=of_decide_eq_true z; omega
 have ei:Int.toNat ((i:Nat):Int)=i:=by omega
 have hi1:IntKind.wrap .i64 (((i:Nat):Int)+1)=((i+1:Nat):Int):=by rw [wrap64 (by omega) (by omega)]; omega
 have eM:IntKind.wrap .i64 (((g.toks.length:Nat):Int)+1)=((g.toks.length+1:Nat):Int):=by rw [wrap64 (by omega) (by omega)]; omega
 obtain ⟨b1,o1,e1,r1⟩:=nd_ld k z
 have rp:=ldSub (m:=1) r1 1 (by simp)
 have nx:∃ n9,n9<nodes.length-i/\I23 g H7 nodes a a2 a3 a4 aL aS c c2 c3 c4 cL cS x n9 a2 g.nts.length c2 a3 g.nts.length c3 a4 g.nts.length c4 g.ta g.toks.length g.tc g.na g.nts.length g.nc g.pa g.prods.length g.pc a nodes.length c x aL (lvs nodes).length cL aS nodes.length cS ((i+1:Nat):Int) H7:=⟨nodes.length-(i+1),by omega,I23.mk (i+1) rfl z rfl⟩
 rw [ei,hi1,eM]
 refine ⟨⟨by omega,by omega⟩,b1,o1,e1,rfl,_,rp,fun _=>nx,fun y=>?_⟩
 have y:0<=(nodes[i]).prod:=by have:=of_decide_eq_false y; omega
 obtain ⟨hj,st⟩:=hF.stn (M:=(g.toks.length:Nat)) z y
 obtain ⟨b2,o2,e2,r2⟩:=pr_ld gi.p hj
 have po:=(hm.pr _ hj).a
 generalize g.prods[(nodes[i]).prod.toNat]=d at *
 have w0:=po.1
 have w1:=po.2
 have ex:((d.left.toNat:Nat):Int)=d.left:=by omega
 obtain ⟨b3,o3,a3',c3',e3,r3,kF⟩:=k2.at_ (i:=d.left.toNat) (by omega)
 obtain ⟨b4,o4,a4',c4',e4,r4,_⟩:=k4.at_ (i:=d.left.toNat) (by omega)
 obtain ⟨b5,o5,e5,r5⟩:=fam_ld (k:=2) (spH_len nodes) kS z
 obtain ⟨b6,o6,e6,r6⟩:=fam_ld (k:=1) (bit1_len _) k3 (i:=d.left.toNat) (by omega)
 unfold spH at r5
 unfold bit1 at r6
 rw [ei] at r5
 rw [ex] at r6 kF
 have q0:=ldSub (m:=1) r5 0 (by simp)
 have q1:=ldSub (m:=1) r5 1 (by simp)
 have z0:Int.toNat (0:Int)*1=0:=rfl
 have z1:Int.toNat (1:Int)*1=1:=rfl
 have n00:((0:Int)<=0)/\((0:Int)<((2:Nat):Int)):=⟨by decide,by decide⟩
 have n01:((0:Int)<=1)/\((1:Int)<((2:Nat):Int)):=⟨by decide,by decide⟩
 have ni:(0:Int)<=((i:Nat):Int)/\((i:Nat):Int)<((nodes.length:Nat):Int):=⟨by omega,by omega⟩
 rw [z0,z1]
 have fin:=j23_1 (y10:=Q) w0 w1 hn z kS kL li k4 i4 st nx
 refine ⟨trivial,⟨by omega,by omega⟩,b1,o1,e1,rfl,_,rp,⟨y,by omega⟩,b2,o2,e2,rfl,d.left,ldSub (m:=1) r2 0 (by simp),trivial,⟨w0,w1⟩,b3,o3,e3,a3',_,c3',r3,fun q=>absurd rfl (of_decide_eq_true q),fun _=>⟨⟨w0,w1⟩,b4,o4,e4,a4',_,c4',r4,fun q=>absurd rfl (of_decide_eq_true q),fun _=>⟨trivial,ni,b5,o5,e5,n00,rfl,_,q0,ni,b5,o5,e5,n01,rfl,_,q1,fun q=>?_,fun q=>?_⟩⟩⟩
 .have q:(lvs (nodes.take i)).length=(lvs (nodes.take (endN nodes i))).length:=by have:=of_decide_eq_true q; omega
  rw [(i3 _).2 (st.nul q)] at r6
  refine ⟨⟨w0,w1⟩,b6,o6,e6,true,r6,fun u=>(by cases u),fun _=>⟨ni,b5,o5,e5,n00,rfl,_,q0,ni,b5,o5,e5,n01,rfl,_,q1,fun u=>?_,fun _=>fin⟩⟩
  have:=of_decide_eq_true u
  omega
 .refine ⟨ni,b5,o5,e5,n00,rfl,_,q0,ni,b5,o5,e5,n01,rfl,_,q1,fun u=>?_,fun _=>fin⟩
  have u:(lvs (nodes.take i)).length<(lvs (nodes.take (endN nodes i))).length:=by have:=of_decide_eq_true u; omega
  have ul:(lvs (nodes.take i)).length<(lvs nodes).length:=by have:=st.lt; omega
  obtain ⟨b7,o7,e7,r7⟩:=lf_ld kL ul
  have lk:=li _ (List.getElem_mem ul)
  have hf:=(i2 _ _).2 (st.fst ul u)
  have eF:Int.toNat (((lvs (nodes.take i)).length:Nat):Int)=(lvs (nodes.take i)).length:=by omega
  generalize (lvs nodes)[(lvs (nodes.take i)).length]=lf at *
  have ek:((lf.kind.toNat:Nat):Int)=lf.kind:=by omega
  obtain ⟨b8,o8,e8,r8⟩:=fam_ld (k:=1) (bit1_len _) kF (i:=lf.kind.toNat) (by omega)
  unfold bit1 at r8
  rw [ek,hf] at r8
  exact ⟨⟨w0,w1⟩,b3,o3,e3,a3',_,c3',r3,ni,b5,o5,e5,n00,rfl,_,q0,⟨by omega,by omega⟩,b7,o7,e7,rfl,_,by rw [eF]; exact ldSub (m:=1) r7 0 (by simp),⟨lk.1,lk.2⟩,b8,o8,e8,true,r8,fun u=>(by cases u),fun _=>fin⟩
end
end Va
end Go.Proofs.Ytefiipkfppaibaa
namespace Go.Ew
open Go.Ev Go.Deep
def I4t (Z:KH) (g:Gm) (aF aN a2:OA) (cF cN p n2 c2:Nat) (k:Nat) (b4:OA) (n5:Nat) (n6:Nat) (b7:OA) (n8:Nat) (n9:Nat) (b10:OA) (n11:Nat) (n12:Nat) (b13:OA) (n14:Nat) (n15:Nat) (b16:OA) (n17:Nat) (n18:Nat) (n19:Nat) (n20:Nat) (x21:Int) (H:KH):Prop:=(((g.ta:OA)=b4)/\((g.toks.length:Nat)=n5)/\((g.tc:Nat)=n6)/\((g.na:OA)=b7)/\((g.nts.length:Nat)=n8)/\((g.nc:Nat)=n9)/\((g.pa:OA)=b10)/\((g.prods.length:Nat)=n11)/\((g.pc:Nat)=n12)/\((aF:OA)=b13)/\((g.nts.length:Nat)=n14)/\((cF:Nat)=n15)/\((aN:OA)=b16)/\((g.nts.length:Nat)=n17)/\((cN:Nat)=n18)/\((p:Nat)=n19)/\((0:Nat)=n20))/\∃ t:Nat,(x21=t)/\(t<=4)/\(k=4-t)/\(St Z H p a2 n2 c2 [])
theorem I4t.mk {Z:KH} {g:Gm} {aF aN a2:OA} {cF cN p n2 c2:Nat} {k:Nat} {x21:Int} {H:KH} (t:Nat) (h0:x21=t) (h1:t<=4) (h2:k=4-t) (h3:St Z H p a2 n2 c2 []):I4t Z g aF aN a2 cF cN p n2 c2 k g.ta g.toks.length g.tc g.na g.nts.length g.nc g.pa g.prods.length g.pc aF g.nts.length cF aN g.nts.length cN p 0 x21 H:=⟨⟨rfl,rfl,rfl,rfl,rfl,rfl,rfl,rfl,rfl,rfl,rfl,rfl,rfl,rfl,rfl,rfl,rfl⟩,t,h0,h1,h2,h3⟩
end Go.Ew
namespace Go.Proofs.Ytefiipkfppaibaa
open Go.Ev Go.Ew
namespace Va
section
variable (ok : EnvOk (env Try.prog))
include ok
theorem j4_0 {Z H:KH} {g:Gm} {aF aN a a2:OA} {cF cN c p n2 c2 t:Nat} {nx:Int} {nodes:List Nd} {nl:Int->Bool} {fs:Int->Int->Bool} (gi:GI Z g) (hm:MayG g) (k:kold H 5 a nodes.length=some (ndC nodes)) (hn:nodes.length<=2000) (hF:Fo g.prods [⟨false,0⟩] nodes) (li:LfIn g.toks.length (lvs nodes))
 (k2:RowsB Z aF g.nts.length g.toks.length fs) (i2:IsF g.prods fs) (k3:kold Z 1 aN g.nts.length=some (famC (bit1 nl) g.nts.length)) (i3:IsN g.prods nl) (s:St Z H p a2 n2 c2 []) (ht:t<4) :
 vc4_J0 g.ta g.toks.length g.tc g.na g.nts.length g.nc g.pa g.prods.length g.pc H a nodes.length c nx aF g.nts.length cF aN g.nts.length cN (fun v _=>v = .bool true) (4-t) (I4t Z g aF aN a2 cF cN p n2 c2) p 0 ((t:Nat):Int):=by
 have ht1:IntKind.wrap .i64 (((t:Nat):Int)+1)=((t+1:Nat):Int):=by rw [wrap64 (by omega) (by omega)]; omega
 have lZ:=s.r.le
 unfold vc4_J0
 rw [ht1]
 refine ⟨trivial,c17 ok (gi.up lZ) hm fun a4 c4 H2 fl l2 k4 i4=>⟨a4,_,c4,rfl,⟨rfl,rfl,rfl,rfl,trivial⟩,c23 ok (gi.up (lZ.trans l2)) hm (l2.kold k) hn hF li (k2.up (lZ.trans l2)) i2 ((lZ.trans l2).kold k3) i3 k4 i4 fun H7 l7=>⟨true,rfl,trivial,fun z=>(by cases z),fun _=>⟨4-(t+1),by omega,rfl,I4t.mk (t+1) rfl ht rfl (s.up (l2.trans l7))⟩⟩⟩⟩
theorem c4 {a a2:OA} {n c n2 c2:Nat} {H:KH} (hl:∀ i,i<n->∃ b o x,a=some ⟨b,o,none⟩/\ld H ⟨b,o+i,none⟩ [.int .u8 x]/\0<=x/\x<=255) (hl2:∀ i,i<n2->∃ b o x,a2=some ⟨b,o,none⟩/\ld H ⟨b,o+i,none⟩ [.int .u8 x]/\0<=x/\x<=255):Does (env Try.prog) 4 [.slice a n c,.slice a2 n2 c2] H fun v _=>v = .bool true:=by
 refine fn4 ok (c8 ⟨true,rfl,fun z=>(by cases z),fun _=>⟨fun _=>rfl,fun z=>⟨fun _=>rfl,fun z2=>?_⟩⟩⟩)
 have hn:n<=150:=by have:=of_decide_eq_false z; omega
 have hn2:n2<=60:=by have:=of_decide_eq_false z2; omega
 have hb:PkB H a n:=⟨hl,hn⟩
 have hb2:PkB H a2 n2:=⟨hl2,by omega⟩
 refine c9 ok hb fun p H2 _ h=>⟨p,0,rfl,c10 ok hb h fun g Z' H6 hZ s h1 h2 hm=>⟨_,_,_,_,_,_,_,_,_,rfl,trivial,?_⟩⟩
 have gi:=s.gi h1 h2
 have hb2:=hb2.up (hZ.trans s.r.le)
 clear s h1 h2 h hb z z2
 refine c16 ok gi hm fun aF cF H17 fs l17 k2 i2=>⟨aF,_,cF,rfl,⟨rfl,trivial⟩,c14 ok (gi.up l17) hm fun bN H22 nl l22 k3 i3=>⟨_,_,_,rfl,trivial,fun z=>absurd rfl (of_decide_eq_true z),fun _=>⟨fun z=>absurd rfl (of_decide_eq_true z),fun _=>?_⟩⟩⟩
 have gz:=gi.up (l17.trans l22)
 have bz:=hb2.up (l17.trans l22)
 have k2:=k2.up l22
 refine c9 ok bz fun q H27 _ s=>⟨q,0,rfl,?_⟩
 clear gi hb2 l17 l22
 have hN:=hm.n
 unfold vc4_L4
 refine ⟨I4t H22 g aF (some ⟨bN,0,none⟩) a2 cF g.nts.length q n2 c2,⟨4,rfl,I4t.mk 0 rfl (by omega) rfl s⟩,?_⟩
 clear s
 rintro k' b4 n5 n6 b7 n8 n9 b10 n11 n12 b13 n14 n15 b16 n17 n18 n19 n20 x21 H' ⟨⟨rfl,rfl,rfl,rfl,rfl,rfl,rfl,rfl,rfl,rfl,rfl,rfl,rfl,rfl,rfl,rfl,rfl⟩,t,rfl,ht,rfl,s⟩
 refine ⟨fun z=>?_,fun _=>rfl⟩
 have z:t<4:=by have:=of_decide_eq_true z; omega
 have ht1:IntKind.wrap .i64 (((t:Nat):Int)+1)=((t+1:Nat):Int):=by rw [wrap64 (by omega) (by omega)]; omega
 refine c20 ok bz gz hm s fun ls a' c' H3 s kl lin l40=>⟨a',_,c',rfl,?_⟩
 refine c21 ok (gz.up s.r.le) hm fun ta tc cb cm cd H7 l7 tab=>⟨ta,_,tc,cb,cm,cd,rfl,fun _=>rfl,fun _=>?_⟩
 have s7:=s.up l7
 have sit:Sit H7 g ta a' ls:=⟨gz.up s7.r.le,hm,tab,l7.kold kl,lin,l40⟩
 clear s
 refine c22 ok sit (fun nodes a5 c5 nx H8 l8 k5 hn5 hF hlv=>⟨a5,_,c5,nx,0,0,rfl,fun u=>absurd rfl (of_decide_eq_true u),fun _=>?_⟩) fun x y H8 l8 hy=>⟨none,0,0,0,x,y,rfl,fun _=>(by rw [ht1]; exact ⟨4-(t+1),by omega,rfl,I4t.mk (t+1) rfl z rfl (s7.up l8)⟩),fun u=>absurd (Decidable.not_not.1 (of_decide_eq_false u)) hy⟩
 have s8:=s7.up l8
 have fin:=j4_0 ok (c:=c5) (nx:=nx) gz hm k5 hn5 hF (by rw [hlv]; exact lin) k2 i2 k3 i3 s8 z (cF:=cF) (cN:=g.nts.length)
 have lZ:=s8.r.le
 have z0:Int.toNat (0:Int)*1=0:=rfl
 have n0:((0:Int)<=0)/\((0:Int)<((g.nts.length:Nat):Int)):=⟨by decide,by omega⟩
 obtain ⟨f1,f2⟩:=hF.fst
 obtain ⟨b3,o3,e3,r3⟩:=fam_ld (k:=1) (bit1_len _) k3 (i:=0) (by omega)
 unfold bit1 at r3
 have r3:=lZ.ld r3
 refine ⟨trivial,fun u=>?_,fun u=>⟨fun v=>?_,fun _=>fin⟩⟩
 .have u:ls.length=0:=by have:=of_decide_eq_true u; omega
  have hnil:lvs nodes=[]:=by rw [hlv]; exact List.eq_nil_of_length_eq_zero u
  have h0:nl ((0:Nat):Int)=true:=(i3 _).2 (f2 hnil ⟨false,0⟩ (by simp)).2
  rw [h0] at r3
  exact ⟨n0,b3,o3,e3,true,r3,fun w=>(by cases w),fun _=>⟨fun w=>absurd (of_decide_eq_true w) (by omega),fun _=>fin⟩⟩
 .have v:0<ls.length:=by have:=of_decide_eq_true v; omega
  obtain ⟨b6,o6,e6,r6⟩:=lf_ld kl v
  have r6:=l8.ld (l7.ld r6)
  obtain ⟨b7,o7,a7,c7,e7,r7,kF⟩:=k2.at_ (i:=0) (by omega)
  have r7:=lZ.ld r7
  have lk:=lin _ (List.getElem_mem v)
  have hf:fs ((0:Nat):Int) (ls[0]).kind=true:=by
   refine (i2 _ _).2 ?_
   obtain ⟨y,l,hy⟩:∃ y l,ls=y :: l:=List.exists_cons_of_length_pos v
   rw [at0 hy]
   obtain ⟨w,s',w',e,_,q⟩:=f1 y l (by rw [hlv,hy])
   have hw:w=[]:=by
    cases w with
    | nil=>rfl
    | cons m w=>have:=congrArg List.length e; simp at this
   subst hw
   rw [List.nil_append] at e
   have es:=(List.cons.inj e).1
   rcases q with ⟨q1,_⟩ | ⟨_,q2⟩
   .rw [<- es] at q1; cases q1
   .rw [<- es] at q2; exact q2
  generalize ls[0]=lf at *
  have ek:((lf.kind.toNat:Nat):Int)=lf.kind:=by omega
  obtain ⟨b8,o8,e8,r8⟩:=fam_ld (k:=1) (bit1_len _) kF (i:=lf.kind.toNat) (by omega)
  unfold bit1 at r8
  rw [ek,hf] at r8
  have nl0:((0:Int)<=0)/\((0:Int)<((ls.length:Nat):Int)):=⟨by decide,by omega⟩
  exact ⟨nl0,b6,o6,e6,rfl,lf.kind,ldSub (m:=1) r6 0 (by simp),n0,b7,o7,e7,a7,_,c7,r7,fun w=>absurd (of_decide_eq_true w) (by omega),fun _=>⟨n0,b7,o7,e7,a7,_,c7,r7,nl0,b6,o6,e6,rfl,lf.kind,ldSub (m:=1) r6 0 (by simp),⟨lk.1,lk.2⟩,b8,o8,e8,true,lZ.ld r8,fun w=>(by cases w),fun _=>fin⟩⟩
end
end Va
end Go.Proofs.Ytefiipkfppaibaa
namespace Go.Proofs.Ytefiipkfppaibaa
open Go.Ev Go.Ew Go.RowKit
namespace Va
theorem tys:tysOk Try.prog tyL:=by unfold tysOk; kernel_rfl
theorem mixed:Try.prog.follows .mixedOrders=true:=by kernel_rfl
theorem own:ownKnob Try.prog.godebug=none:=by kernel_rfl
def fnB8:List Nat:=[8,11,14,16,17,18,27,28,29,31,32,33,34,35,36,37,38,47,48,49,50,51,52,53,54,55,56,57,58,59,60,64,65,66,67,68,69,70,71,72,74,75,76,77,78,79,80,81,82,83,84,85,86,87,104]
def xtB8:List (Nat × Nat):=[]
theorem fnsB8:(fnsOf Try.prog fnB8).all (fnOk (envOf Try.prog tyL fnB8 plL xtB8))=true:=by kernel_rfl
theorem okB8:EnvOk (envOf Try.prog tyL fnB8 plL xtB8):=env_ok tys mixed fnsB8 (fun g hg=>by simp [xtB8] at hg) (fun g hg=>by simp [xtB8] at hg) (fun g hg=>by simp [xtB8] at hg)
theorem hereB8:(tget (envOf Try.prog tyL fnB8 plL xtB8).ff 8).isSome=true:=by kernel_rfl
set_option maxRecDepth 100000 in
theorem runsB8:callK (envOf Try.prog tyL fnB8 plL xtB8) 1000000 1000 8 [] ⟨.nil,0⟩ kTrue=True:=by kernel_rfl
theorem walkB8 (w:World):Calls Try.prog 8 #[] w fun e w'=>e = .returned (.bool true)/\Below w.heap.size w w':=by
 obtain ⟨fn,hfn⟩:=Option.isSome_iff_exists.1 hereB8
 exact law_fast okB8 hfn (by unfold unkU; omega) runsB8 w
theorem nameB8 : (Try.f8.name == "runtime.NumGoroutine") = false := by kernel_rfl
theorem bodyB8:Try.f8.body.isNone=false:=by kernel_rfl
theorem enterB8 (w:World):(callFunc 8 #[]).run Try.prog w = .ok (.enter 8 #[]) w:=by
 simp only [callFunc,Sem.run_bind,run_program,Result.andThen_ok,Try.func8,nameB8,bodyB8,Bool.false_eq_true,if_false,Sem.run_pure]
theorem fns:(fnsOf Try.prog fnL).all (fnOk (env Try.prog))=true:=by kernel_rfl
theorem ok:EnvOk (env Try.prog):=env_ok tys mixed fns (fun g hg=>by simp [xtL] at hg) (fun g hg=>by simp [xtL] at hg) (fun g hg=>by
 have e:g=8:=by simpa [xtL] using hg
 subst e
 exact fun w=>⟨enterB8 w,walkB8 w⟩)
end Va
end Go.Proofs.Ytefiipkfppaibaa
