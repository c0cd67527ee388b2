import Derived.Test.YtibkijpnkmccpaaEwVc2
import Derived.Test.YtibkijpnkmccpaaEwFiB
import Derived.Test.YtibkijpnkmccpaaEwEnv
import Derived.Test.YtibkijpnkmccpaaEvFast4
import Derived.Test.YtibkijpnkmccpaaEwS4
import Derived.Carry
set_option linter.unusedVariables false
set_option linter.unusedSimpArgs false
namespace Go.Ew
open Go.Ev Go.Deep
theorem hd1_add (ad:Int->OA) (cp:Int->Nat) (len i:Nat) (a2:OA) (c2:Nat):∃ ad' cp',famC (hd1 ad' len cp') (i+1)=famC (hd1 ad len cp) i++[.slice a2 len c2]/\(∀ j:Nat,j<i->ad' j=ad j)/\ad' (i:Int)=a2:=by
 refine ⟨fun j=>if j=(i:Int) then a2 else ad j,fun j=>if j=(i:Int) then c2 else cp j,?_,fun j hj=>if_neg (by omega),if_pos rfl⟩
 rw [fam_app]
 congr 1
 .refine fam_congr fun j hj=>?_
  have hne:((j:Nat):Int)≠(i:Int):=by omega
  simp only [hd1,if_neg hne]
 .simp [hd1]
theorem chK_succ {g:Gm} {X:Int->Int->Bool} {n t:Int} {p:Nat} (h:p<g.prods.length):chK (lefts g) X n t (p+1)=chK (lefts g) X n t p++(if g.prods[p].left=n/\X p t=true then [(p:Int)] else []):=by
 unfold chK
 rw [offP_succ,List.filter_append,lefts_at h]
 congr 1
 by_cases e:g.prods[p].left=n
 .rw [if_pos (by rw [e])]
  cases q:X p t<;>simp [e,q]
 .rw [if_neg (fun w=>e (Option.some.inj w)),if_neg fun w=>e w.1]; rfl
theorem chK_pos {ls:List Int} {X:Int->Int->Bool} {n t:Int} {p:Nat} {x:Int} (h:x∈chK ls X n t p):0<=x:=by
 obtain ⟨y,_,rfl,_⟩:=offP_at (List.mem_filter.1 h).1
 omega
theorem ent_neg {l:List Int} (h:∀ x∈l,0<=x):ent l<0↔l=[]:=by
 cases l with
 | nil=>exact ⟨fun _=>rfl,fun _=>by show (-1:Int)<0; omega⟩
 | cons x r=>exact ⟨fun q=>absurd (h x (List.mem_cons_self ..)) (by have q:x<0:=q; omega),fun q=>by cases q⟩
theorem ent_app (l:List Int) (x:Int):ent (l++[x])=if l=[] then x else ent l:=by
 cases l with
 | nil=>rfl
 | cons y r=>rfl
theorem cl1_app (n t:Int) (l:List Int) (x:Int):cl1 n t (l++[x])=cl1 n t l++(if l=[] then [] else [⟨n,t,ent l,x⟩]):=by
 cases l with
 | nil=>rfl
 | cons y r =>
   rw [if_neg (fun q=>by cases q)]
   show List.map (fun b=>(⟨n,t,y,b⟩:Clh)) (r++[x])=List.map (fun b=>(⟨n,t,y,b⟩:Clh)) r++[⟨n,t,y,x⟩]
   rw [List.map_append]; rfl
def I12a (Z:KH) (g:Gm) (X:Int->Int->Bool) (nb cF cO:Nat) (aF aO:OA) (i t n24 n31:Nat) (a22 a29:OA) (ad:Int->OA) (cp:Int->Nat) (k:Nat) (a4:OA) (n5:Nat) (n6:Nat) (a7:OA) (n8:Nat) (n9:Nat) (a10:OA) (n11:Nat) (n12:Nat) (a13:OA) (n14:Nat) (n15:Nat) (a16:OA) (n17:Nat) (n18:Nat) (a19:OA) (n20:Nat) (n21:Nat) (b22:OA) (m23:Nat) (m24:Nat) (a25:OA) (n26:Nat) (n27:Nat) (x28:Int) (b29:OA) (m30:Nat) (m31:Nat) (x32:Int) (x33:Int) (x34:Int) (H:KH):Prop:=(((g.ta:OA)=a4)/\((g.toks.length:Nat)=n5)/\((g.tc:Nat)=n6)/\((g.na:OA)=a7)/\((g.nts.length:Nat)=n8)/\((g.nc:Nat)=n9)/\((g.pa:OA)=a10)/\((g.prods.length:Nat)=n11)/\((g.pc:Nat)=n12)/\((some ⟨nb,0,none⟩:OA)=a13)/\((g.nts.length:Nat)=n14)/\((g.nts.length:Nat)=n15)/\((aF:OA)=a16)/\((g.nts.length:Nat)=n17)/\((cF:Nat)=n18)/\((aO:OA)=a19)/\((g.nts.length:Nat)=n20)/\((cO:Nat)=n21)/\((a22:OA)=b22)/\((i:Nat)=m23)/\((n24:Nat)=m24)/\((((i:Nat):Int):Int)=x28)/\((a29:OA)=b29)/\((t:Nat)=m30)/\((n31:Nat)=m31)/\((((t:Nat):Int):Int)=x32))/\∃ p:Nat,(x34=p)/\(p<=g.prods.length)/\(k=g.prods.length-p)/\(x33=ent (chK (lefts g) X i t p))/\(n26=(clA (chG g X) i (g.toks.length+1)++clR (chG g X) i t++cl1 i t (chK (lefts g) X i t p)).length)/\(Rwz Z H [⟨4,a25,n26,n27,clV (clA (chG g X) i (g.toks.length+1)++clR (chG g X) i t++cl1 i t (chK (lefts g) X i t p))⟩,⟨1,a29,t,n31,famC (int1 fun t=>ent (chG g X i t)) t⟩,⟨1,a22,i,n24,famC (hd1 ad (g.toks.length+1) cp) i⟩])
theorem I12a.mk {Z:KH} {g:Gm} {X:Int->Int->Bool} {nb cF cO:Nat} {aF aO:OA} {i t n24 n31:Nat} {a22 a29:OA} {ad:Int->OA} {cp:Int->Nat} {k:Nat} {a25:OA} {n26:Nat} {n27:Nat} {x33:Int} {x34:Int} {H:KH} (p:Nat) (h0:x34=p) (h1:p<=g.prods.length) (h2:k=g.prods.length-p) (h3:x33=ent (chK (lefts g) X i t p)) (h4:n26=(clA (chG g X) i (g.toks.length+1)++clR (chG g X) i t++cl1 i t (chK (lefts g) X i t p)).length) (h5:Rwz Z H [⟨4,a25,n26,n27,clV (clA (chG g X) i (g.toks.length+1)++clR (chG g X) i t++cl1 i t (chK (lefts g) X i t p))⟩,⟨1,a29,t,n31,famC (int1 fun t=>ent (chG g X i t)) t⟩,⟨1,a22,i,n24,famC (hd1 ad (g.toks.length+1) cp) i⟩]):I12a Z g X nb cF cO aF aO i t n24 n31 a22 a29 ad cp k g.ta g.toks.length g.tc g.na g.nts.length g.nc g.pa g.prods.length g.pc (some ⟨nb,0,none⟩) g.nts.length g.nts.length aF g.nts.length cF aO g.nts.length cO a22 i n24 a25 n26 n27 (((i:Nat):Int)) a29 t n31 (((t:Nat):Int)) x33 x34 H:=⟨⟨rfl,rfl,rfl,rfl,rfl,rfl,rfl,rfl,rfl,rfl,rfl,rfl,rfl,rfl,rfl,rfl,rfl,rfl,rfl,rfl,rfl,rfl,rfl,rfl,rfl,rfl⟩,p,h0,h1,h2,h3,h4,h5⟩
def I12b (Z:KH) (g:Gm) (X:Int->Int->Bool) (nb cF cO:Nat) (aF aO:OA) (i n24:Nat) (a22:OA) (ad:Int->OA) (cp:Int->Nat) (k:Nat) (a4:OA) (n5:Nat) (n6:Nat) (a7:OA) (n8:Nat) (n9:Nat) (a10:OA) (n11:Nat) (n12:Nat) (a13:OA) (n14:Nat) (n15:Nat) (a16:OA) (n17:Nat) (n18:Nat) (a19:OA) (n20:Nat) (n21:Nat) (b22:OA) (m23:Nat) (m24:Nat) (a25:OA) (n26:Nat) (n27:Nat) (x28:Int) (a29:OA) (n30:Nat) (n31:Nat) (x32:Int) (H:KH):Prop:=(((g.ta:OA)=a4)/\((g.toks.length:Nat)=n5)/\((g.tc:Nat)=n6)/\((g.na:OA)=a7)/\((g.nts.length:Nat)=n8)/\((g.nc:Nat)=n9)/\((g.pa:OA)=a10)/\((g.prods.length:Nat)=n11)/\((g.pc:Nat)=n12)/\((some ⟨nb,0,none⟩:OA)=a13)/\((g.nts.length:Nat)=n14)/\((g.nts.length:Nat)=n15)/\((aF:OA)=a16)/\((g.nts.length:Nat)=n17)/\((cF:Nat)=n18)/\((aO:OA)=a19)/\((g.nts.length:Nat)=n20)/\((cO:Nat)=n21)/\((a22:OA)=b22)/\((i:Nat)=m23)/\((n24:Nat)=m24)/\((((i:Nat):Int):Int)=x28))/\∃ t:Nat,(x32=t)/\(t<=g.toks.length+1)/\(k=g.toks.length+1-t)/\(n30=t)/\(n26=(clA (chG g X) i (g.toks.length+1)++clR (chG g X) i t).length)/\(Rwz Z H [⟨1,a29,t,n31,famC (int1 fun t=>ent (chG g X i t)) t⟩,⟨4,a25,n26,n27,clV (clA (chG g X) i (g.toks.length+1)++clR (chG g X) i t)⟩,⟨1,a22,i,n24,famC (hd1 ad (g.toks.length+1) cp) i⟩])
theorem I12b.mk {Z:KH} {g:Gm} {X:Int->Int->Bool} {nb cF cO:Nat} {aF aO:OA} {i n24:Nat} {a22:OA} {ad:Int->OA} {cp:Int->Nat} {k:Nat} {a25:OA} {n26:Nat} {n27:Nat} {a29:OA} {n30:Nat} {n31:Nat} {x32:Int} {H:KH} (t:Nat) (h0:x32=t) (h1:t<=g.toks.length+1) (h2:k=g.toks.length+1-t) (h3:n30=t) (h4:n26=(clA (chG g X) i (g.toks.length+1)++clR (chG g X) i t).length) (h5:Rwz Z H [⟨1,a29,t,n31,famC (int1 fun t=>ent (chG g X i t)) t⟩,⟨4,a25,n26,n27,clV (clA (chG g X) i (g.toks.length+1)++clR (chG g X) i t)⟩,⟨1,a22,i,n24,famC (hd1 ad (g.toks.length+1) cp) i⟩]):I12b Z g X nb cF cO aF aO i n24 a22 ad cp k g.ta g.toks.length g.tc g.na g.nts.length g.nc g.pa g.prods.length g.pc (some ⟨nb,0,none⟩) g.nts.length g.nts.length aF g.nts.length cF aO g.nts.length cO a22 i n24 a25 n26 n27 (((i:Nat):Int)) a29 n30 n31 x32 H:=⟨⟨rfl,rfl,rfl,rfl,rfl,rfl,rfl,rfl,rfl,rfl,rfl,rfl,rfl,rfl,rfl,rfl,rfl,rfl,rfl,rfl,rfl,rfl⟩,t,h0,h1,h2,h3,h4,h5⟩
def I12c (H0:KH) (g:Gm) (X:Int->Int->Bool) (nb cF cO:Nat) (aF aO:OA) (k:Nat) (a4:OA) (n5:Nat) (n6:Nat) (a7:OA) (n8:Nat) (n9:Nat) (a10:OA) (n11:Nat) (n12:Nat) (a13:OA) (n14:Nat) (n15:Nat) (a16:OA) (n17:Nat) (n18:Nat) (a19:OA) (n20:Nat) (n21:Nat) (a22:OA) (n23:Nat) (n24:Nat) (a25:OA) (n26:Nat) (n27:Nat) (x28:Int) (H:KH):Prop:=(((g.ta:OA)=a4)/\((g.toks.length:Nat)=n5)/\((g.tc:Nat)=n6)/\((g.na:OA)=a7)/\((g.nts.length:Nat)=n8)/\((g.nc:Nat)=n9)/\((g.pa:OA)=a10)/\((g.prods.length:Nat)=n11)/\((g.pc:Nat)=n12)/\((some ⟨nb,0,none⟩:OA)=a13)/\((g.nts.length:Nat)=n14)/\((g.nts.length:Nat)=n15)/\((aF:OA)=a16)/\((g.nts.length:Nat)=n17)/\((cF:Nat)=n18)/\((aO:OA)=a19)/\((g.nts.length:Nat)=n20)/\((cO:Nat)=n21))/\∃ i:Nat,∃ Z:KH,∃ ad:Int->OA,∃ cp:Int->Nat,(x28=i)/\(i<=g.nts.length)/\(k=g.nts.length-i)/\(n23=i)/\(n26=(clA (chG g X) i (g.toks.length+1)).length)/\(Le H0 Z)/\(∀ j:Nat,j<i->intP (fun n t=>ent (chG g X n t)) (g.toks.length+1) Z (ad j) j)/\(Rwz Z H [⟨1,a22,i,n24,famC (hd1 ad (g.toks.length+1) cp) i⟩,⟨4,a25,n26,n27,clV (clA (chG g X) i (g.toks.length+1))⟩])
theorem I12c.mk {H0:KH} {g:Gm} {X:Int->Int->Bool} {nb cF cO:Nat} {aF aO:OA} {k:Nat} {a22:OA} {n23:Nat} {n24:Nat} {a25:OA} {n26:Nat} {n27:Nat} {x28:Int} {H:KH} (i:Nat) (Z:KH) (ad:Int->OA) (cp:Int->Nat) (h0:x28=i) (h1:i<=g.nts.length) (h2:k=g.nts.length-i) (h3:n23=i) (h4:n26=(clA (chG g X) i (g.toks.length+1)).length) (h5:Le H0 Z) (h6:∀ j:Nat,j<i->intP (fun n t=>ent (chG g X n t)) (g.toks.length+1) Z (ad j) j) (h7:Rwz Z H [⟨1,a22,i,n24,famC (hd1 ad (g.toks.length+1) cp) i⟩,⟨4,a25,n26,n27,clV (clA (chG g X) i (g.toks.length+1))⟩]):I12c H0 g X nb cF cO aF aO k g.ta g.toks.length g.tc g.na g.nts.length g.nc g.pa g.prods.length g.pc (some ⟨nb,0,none⟩) g.nts.length g.nts.length aF g.nts.length cF aO g.nts.length cO a22 n23 n24 a25 n26 n27 x28 H:=⟨⟨rfl,rfl,rfl,rfl,rfl,rfl,rfl,rfl,rfl,rfl,rfl,rfl,rfl,rfl,rfl,rfl,rfl,rfl⟩,i,Z,ad,cp,h0,h1,h2,h3,h4,h5,h6,h7⟩
end Go.Ew
namespace Go.Proofs.Ytibkijpnkmccpaa
open Go.Ev Go.Ew
namespace Va
section
variable (ok : EnvOk (env Try.prog))
include ok
theorem c14 {g:Gm} {Z H:KH} {nb cF cO:Nat} {fb ob:Nat->Nat} {aF aO:OA} {Y:Int->Int->Bool} {i t:Nat} {Q:PQ} (hg:GI H g) (hm:MayG g) (s:RefS Z H g.nts.length g.toks.length nb fb ob aF aO Y) (iF:IsF g.prods (fsY g.toks.length Y)) (hi:i<g.prods.length) (ht:t<=g.toks.length) (hq:∀ H',Le H H'->Q (.bool (mB (nlY Y) (fsY g.toks.length Y) (flY g.toks.length Y) g.prods[i] t)) H') :
 Does (env Try.prog) 14 [.agg #[.slice (some ⟨nb,0,none⟩) g.nts.length g.nts.length,.slice aF g.nts.length cF,.slice aO g.nts.length cO],gv g,.int .i64 ((i:Nat):Int),.int .i64 ((t:Nat):Int)] H Q:=by
 obtain ⟨b1,o1,ha1,r1⟩:=pr_ld hg.p hi
 have pi:=hg.pi i hi
 have po:=hm.pr i hi
 have si:=SymsIn.of hm hi
 have hT:=hm.t
 have ei:Int.toNat ((i:Nat):Int)=i:=by omega
 have et:Int.toNat ((t:Nat):Int)=t:=by omega
 have hb:=po.b
 have ha:=po.a
 generalize g.prods[i]=d at *
 refine fn14 ok ⟨trivial,⟨by omega,by omega⟩,b1,o1,ha1,rfl,d.ra,d.right.length,d.rc,?_,?_⟩
 .rw [ei]; exact ldSub (m:=1) r1 1 (by simp)
 refine c27 ok s pi.1 si hT.2 (by omega) fun b H7 l7 _ k=>⟨_,_,_,_,rfl,trivial,trivial,?_⟩
 have fol:Q (.bool (flY g.toks.length Y d.left t)) H7->∃ n15 n16:Nat,(g.pa=some ⟨n15,n16,none⟩)/\(none:Option Nat)=none/\∃ x17:Int,ld H7 ⟨n15,n16+Int.toNat ((i:Nat):Int)*3+0,none⟩ [.int .i64 x17]/\(0<=x17/\x17<((g.nts.length:Nat):Int))/\∃ n18 n19:Nat,aO=some ⟨n18,n19,none⟩/\∃ a20:OA,∃ n21 n22:Nat,ld H7 ⟨n18,n19+Int.toNat x17*1,none⟩ [.slice a20 n21 n22]/\(0<=((t:Nat):Int)/\((t:Nat):Int)<((n21:Nat):Int))/\∃ n23 n24:Nat,a20=some ⟨n23,n24,none⟩/\∃ b25:Bool,ld H7 ⟨n23,n24+Int.toNat ((t:Nat):Int)*1,none⟩ [.bool b25]/\Q (.bool b25) H7:=fun hq=>by
  obtain ⟨bO,oO,eO,rO⟩:=(s.up l7).hdO (i:=d.left.toNat) (by omega)
  have rb:=(s.up l7).ldO (i:=d.left.toNat) (t:=t) (by omega) (by omega)
  have el:((d.left.toNat:Nat):Int)=d.left:=by omega
  rw [el,<- flY_at (Y:=Y) (x:=d.left) (M:=g.toks.length) (t:=(t:Int)) (by omega) (by omega)] at rb
  rw [ei,et]
  exact ⟨b1,o1,ha1,rfl,d.left,l7.ld (ldSub (m:=1) r1 0 (by simp)),ha,bO,oO,eO,_,_,_,rO,⟨by omega,by omega⟩,_,0,rfl,_,rb,hq⟩
 have q7:=hq H7 l7
 unfold mB at q7
 refine ⟨fun z=>?_,fun z=>?_⟩
 .have z:t<g.toks.length:=by have:=of_decide_eq_true z; omega
  obtain ⟨b2,o2,e2,r2⟩:=fam_ld (k:=1) (bit1_len _) k z
  refine ⟨⟨by omega,by omega⟩,b2,o2,e2,_,by rw [et]; exact r2,fun q=>?_,fun q=>⟨fun y=>⟨⟨by omega,by omega⟩,fol ?_⟩,fun y=>?_⟩⟩
  .rw [q,Bool.true_or] at q7; exact q7
  .rw [q,y,Bool.false_or,Bool.true_and] at q7; exact q7
  .rw [q,y,Bool.false_or,Bool.false_and] at q7; exact q7
 .have z:t=g.toks.length:=by have:=of_decide_eq_false z; omega
  have q:(ofK (nlY Y) (fsY g.toks.length Y) d.right).1 (t:Int)=false:=by
   cases q:(ofK (nlY Y) (fsY g.toks.length Y) d.right).1 (t:Int)
   .rfl
   .have:=ofK_lt hm iF si q; omega
  refine ⟨fun y=>⟨⟨by omega,by omega⟩,fol ?_⟩,fun y=>?_⟩
  .rw [q,y,Bool.false_or,Bool.true_and] at q7; exact q7
  .rw [q,y,Bool.false_or,Bool.false_and] at q7; exact q7
theorem l12a {Z0 H0 Z H:KH} {g:Gm} {nb cF cO:Nat} {aF aO:OA} {fb ob:Nat->Nat} {Y X:Int->Int->Bool} {i t n n24 n26 n27 n31:Nat} {a22 a25 a29:OA} {ad:Int->OA} {cp:Int->Nat} {J:(Nat)->(OA->((Nat)->((Nat)->(OA->((Nat)->((Nat)->(OA->((Nat)->((Nat)->(OA->((Nat)->((Nat)->(OA->((Nat)->((Nat)->(OA->((Nat)->((Nat)->(OA->((Nat)->((Nat)->(OA->((Nat)->((Nat)->((Int)->(OA->((Nat)->((Nat)->((Int)->(KH->Prop))))))))))))))))))))))))))))))} (gi:GI H0 g) (hm:MayG g) (s:RefS Z0 H0 g.nts.length g.toks.length nb fb ob aF aO Y) (iF:IsF g.prods (fsY g.toks.length Y)) (hX:X=mX g.prods (nlY Y) (fsY g.toks.length Y) (flY g.toks.length Y)) (lz:Le H0 Z) (hi:i<g.nts.length) (ht:t<=g.toks.length) (h26:n26=(clA (chG g X) i (g.toks.length+1)++clR (chG g X) i t).length)
 (w:Rwz Z H [⟨4,a25,n26,n27,clV (clA (chG g X) i (g.toks.length+1)++clR (chG g X) i t)⟩,⟨1,a29,t,n31,famC (int1 fun t=>ent (chG g X i t)) t⟩,⟨1,a22,i,n24,famC (hd1 ad (g.toks.length+1) cp) i⟩])
 (next:∀ b25 m26 m27 b29 m31 H',m26=(clA (chG g X) i (g.toks.length+1)++clR (chG g X) i (t+1)).length->Rwz Z H' [⟨1,b29,t+1,m31,famC (int1 fun t=>ent (chG g X i t)) (t+1)⟩,⟨4,b25,m26,m27,clV (clA (chG g X) i (g.toks.length+1)++clR (chG g X) i (t+1))⟩,⟨1,a22,i,n24,famC (hd1 ad (g.toks.length+1) cp) i⟩]->∃ k',k'<n/\J k' g.ta g.toks.length g.tc g.na g.nts.length g.nc g.pa g.prods.length g.pc (some ⟨nb,0,none⟩) g.nts.length g.nts.length aF g.nts.length cF aO g.nts.length cO a22 i n24 b25 m26 m27 ((i:Nat):Int) b29 (t+1) m31 (IntKind.wrap .i64 (((t:Nat):Int)+1)) H') :
 vc12_L3 g.ta g.toks.length g.tc g.na g.nts.length g.nc g.pa g.prods.length g.pc (some ⟨nb,0,none⟩) g.nts.length g.nts.length aF g.nts.length cF aO g.nts.length cO a22 i n24 a25 n26 n27 ((i:Nat):Int) a29 t n31 ((t:Nat):Int) H n J:=by
 have hP:=hm.p
 have hT:=hm.t
 have hN:=hm.n
 have hf:∀ n t,(chG g X n t).length<=16:=fun n t=>Nat.le_trans (chK_len _ _ _ _ _) hP.2
 have b1':=clA_len hf (g.toks.length+1) i
 have b2':=clR_len hf i t
 have b3':i*((g.toks.length+1)*16)<=8*((8+1)*16):=Nat.mul_le_mul (by omega) (Nat.mul_le_mul (by omega) (Nat.le_refl _))
 unfold vc12_L3
 refine ⟨I12a Z g X nb cF cO aF aO i t n24 n31 a22 a29 ad cp,⟨g.prods.length,I12a.mk 0 rfl (by omega) rfl (by simp [chK,offP,ent]) (by rw [h26]; simp [chK,offP,cl1]) (by simpa [chK,offP,cl1] using w)⟩,?_⟩
 clear w h26
 rintro k a4 n5 n6 a7 n8 n9 a10 n11 n12 a13 n14 n15 a16 n17 n18 a19 n20 n21 b22 m23 m24 a25 n26' n27 x28 b29 m30 m31 x32 x33 x34 H35 ⟨⟨rfl,rfl,rfl,rfl,rfl,rfl,rfl,rfl,rfl,rfl,rfl,rfl,rfl,rfl,rfl,rfl,rfl,rfl,rfl,rfl,rfl,rfl,rfl,rfl,rfl,rfl⟩,p,rfl,hp,rfl,rfl,h26',w⟩
 have pos:∀ x∈chK (lefts g) X i t p,0<=x:=fun x hx=>chK_pos hx
 have b4':=cl1_len (n:=(i:Int)) (t:=(t:Int)) (chK_len (lefts g) X i t p)
 have hlen:n26'<=2000:=by rw [h26',List.length_append,List.length_append]; omega
 refine ⟨fun z=>?_,fun z=>fun n1 h1 n2 h2=>⟨1,[.int .i64 (ent (chK (lefts g) X i t p))],knew_of (ti:=tiI) (lit_kold (if_pos rfl) rfl),?_⟩⟩
 .have z:p<g.prods.length:=by have:=of_decide_eq_true z; omega
  have ep:Int.toNat ((p:Nat):Int)=p:=by omega
  have hp1:IntKind.wrap .i64 (((p:Nat):Int)+1)=((p+1:Nat):Int):=by rw [wrap64 (by omega) (by omega)]; omega
  have lH:=lz.trans w.le
  have gH:=gi.up lH
  have cs:=chK_succ (X:=X) (n:=(i:Int)) (t:=(t:Int)) z
  have xe:X p t=mB (nlY Y) (fsY g.toks.length Y) (flY g.toks.length Y) g.prods[p] t:=by rw [hX,mX_at z]
  obtain ⟨b1,o1,e1,r1⟩:=pr_ld gH.p z
  rw [hp1]
  refine ⟨⟨by omega,by omega⟩,b1,o1,e1,rfl,(g.prods[p]).left,?_,fun y=>?_,fun y=>?_⟩
  .rw [ep]; exact ldSub (m:=1) r1 0 (by simp)
  .have y:¬ (g.prods[p]).left=(i:Int):=of_decide_eq_true y
   rw [if_neg fun q=>y q.1,List.append_nil] at cs
   exact ⟨_,by omega,I12a.mk (p+1) rfl z rfl (by rw [cs]) (by rw [cs]; exact h26') (by rw [cs]; exact w)⟩
  have y:(g.prods[p]).left=(i:Int):=by have:=of_decide_eq_false y; exact Decidable.not_not.1 this
  refine c14 ok gH hm (s.up lH) iF z ht fun H6 l6=>⟨_,rfl,fun q=>?_,fun q=>?_⟩
  .have q:X p t=false:=by rw [xe]; simpa using q
   rw [if_neg (fun w=>by rw [q] at w; cases w.2),List.append_nil] at cs
   exact ⟨_,by omega,I12a.mk (p+1) rfl z rfl (by rw [cs]) (by rw [cs]; exact h26') (by rw [cs]; exact w.up l6)⟩
  .have q:X p t=true:=by rw [xe]; simpa using q
   rw [if_pos ⟨y,q⟩] at cs
   have ce:=ent_app (chK (lefts g) X i t p) p
   have cc:=cl1_app i t (chK (lefts g) X i t p) p
   rw [<- cs] at ce cc
   refine ⟨fun v=>?_,fun v=>?_⟩
   .have v:=(ent_neg pos).1 (of_decide_eq_true v)
    rw [if_pos v] at ce cc
    rw [List.append_nil] at cc
    exact ⟨_,by omega,I12a.mk (p+1) rfl z rfl (by rw [ce]) (by rw [cc]; exact h26') (by rw [cc]; exact w.up l6)⟩
   .have v:¬ chK (lefts g) X i t p=[]:=fun q=>of_decide_eq_false v ((ent_neg pos).2 q)
    rw [if_neg v] at ce cc
    intro n2 h2 n3 h3
    refine ⟨1,[.int .i64 ((i:Nat):Int),.int .i64 ((t:Nat):Int),.int .i64 (ent (chK (lefts g) X i t p)),.int .i64 ((p:Nat):Int)],knew_of (ti:=tiCl) (lit_kold (if_pos rfl) rfl),?_⟩
    obtain ⟨a',c',H',f1,f2⟩:=((w.up l6).new h2).app (ti:=tiCl) (nm:=n3) (m:=1) (new:=[.int .i64 ((i:Nat):Int),.int .i64 ((t:Nat):Int),.int .i64 (ent (chK (lefts g) X i t p)),.int .i64 ((p:Nat):Int)]) h3 rfl rfl (by show n26'+1<=_; omega) (by decide) (by decide)
    refine ⟨a',_,c',H',f1,_,by omega,I12a.mk (p+1) rfl z rfl (by rw [ce]) ?_ ?_⟩
    .rw [cc,<- List.append_assoc,List.length_append (bs:=[_]),<- h26']; rfl
    .rw [cc,<- List.append_assoc,clV_app (m:=[_])]
     exact f2
 .have z:p=g.prods.length:=by have:=of_decide_eq_false z; omega
  subst z
  obtain ⟨a',c',H',f1,f2⟩:=((w.new h1).perm (List.Perm.swap _ _ _)).app (ti:=tiI) (nm:=n2) (m:=1) (new:=[.int .i64 (ent (chK (lefts g) X i t g.prods.length))]) h2 rfl rfl (by show t+1<=_; omega) (by decide) (by decide)
  refine ⟨a',_,c',H',f1,?_⟩
  refine next _ _ _ _ _ _ ?_ ?_
  .rw [h26',clR_succ,List.append_assoc]; rfl
  .rw [fam_app,clR_succ,<- List.append_assoc]
   exact f2
theorem l12b {Z0 H0 Z H:KH} {g:Gm} {nb cF cO:Nat} {aF aO:OA} {fb ob:Nat->Nat} {Y X:Int->Int->Bool} {i n n24 n26 n27:Nat} {a22 a25:OA} {ad:Int->OA} {cp:Int->Nat} {J:(Nat)->(OA->((Nat)->((Nat)->(OA->((Nat)->((Nat)->(OA->((Nat)->((Nat)->(OA->((Nat)->((Nat)->(OA->((Nat)->((Nat)->(OA->((Nat)->((Nat)->(OA->((Nat)->((Nat)->(OA->((Nat)->((Nat)->((Int)->(KH->Prop))))))))))))))))))))))))))} (gi:GI H0 g) (hm:MayG g) (s:RefS Z0 H0 g.nts.length g.toks.length nb fb ob aF aO Y) (iF:IsF g.prods (fsY g.toks.length Y)) (hX:X=mX g.prods (nlY Y) (fsY g.toks.length Y) (flY g.toks.length Y)) (lz:Le H0 Z) (hi:i<g.nts.length) (h26:n26=(clA (chG g X) i (g.toks.length+1)).length)
 (hp:∀ j:Nat,j<i->intP (fun n t=>ent (chG g X n t)) (g.toks.length+1) Z (ad j) j)
 (w:Rwz Z H [⟨1,a22,i,n24,famC (hd1 ad (g.toks.length+1) cp) i⟩,⟨4,a25,n26,n27,clV (clA (chG g X) i (g.toks.length+1))⟩])
 (next:∀ Z' b22 m24 b25 m26 m27 ad' cp' H',Le Z Z'->(∀ j:Nat,j<i+1->intP (fun n t=>ent (chG g X n t)) (g.toks.length+1) Z' (ad' j) j)->m26=(clA (chG g X) (i+1) (g.toks.length+1)).length->Rwz Z' H' [⟨1,b22,i+1,m24,famC (hd1 ad' (g.toks.length+1) cp') (i+1)⟩,⟨4,b25,m26,m27,clV (clA (chG g X) (i+1) (g.toks.length+1))⟩]->∃ k',k'<n/\J k' g.ta g.toks.length g.tc g.na g.nts.length g.nc g.pa g.prods.length g.pc (some ⟨nb,0,none⟩) g.nts.length g.nts.length aF g.nts.length cF aO g.nts.length cO b22 (i+1) m24 b25 m26 m27 (IntKind.wrap .i64 (((i:Nat):Int)+1)) H') :
 vc12_L5 g.ta g.toks.length g.tc g.na g.nts.length g.nc g.pa g.prods.length g.pc (some ⟨nb,0,none⟩) g.nts.length g.nts.length aF g.nts.length cF aO g.nts.length cO a22 i n24 a25 n26 n27 ((i:Nat):Int) H n J:=by
 have hN:=hm.n
 have hT:=hm.t
 unfold vc12_L5
 refine ⟨I12b Z g X nb cF cO aF aO i n24 a22 ad cp,⟨g.toks.length+1,I12b.mk 0 rfl (by omega) rfl rfl (by rw [h26]; simp [clR]) ?_⟩,?_⟩
 .have:=w.none_ (sz:=1)
  have:=this.perm (List.Perm.cons _ (List.Perm.swap _ _ _))
  simpa [clR,famC] using this
 clear w h26
 rintro k a4 n5 n6 a7 n8 n9 a10 n11 n12 a13 n14 n15 a16 n17 n18 a19 n20 n21 b22 m23 m24 a25 n26' n27 x28 a29 n30 n31 x32 H33 ⟨⟨rfl,rfl,rfl,rfl,rfl,rfl,rfl,rfl,rfl,rfl,rfl,rfl,rfl,rfl,rfl,rfl,rfl,rfl,rfl,rfl,rfl,rfl⟩,t,rfl,ht,rfl,rfl,h26',w⟩
 refine ⟨fun z=>?_,fun z=>?_⟩
 .have z:n30<=g.toks.length:=by have:=of_decide_eq_true z; omega
  have ht1:IntKind.wrap .i64 (((n30:Nat):Int)+1)=((n30+1:Nat):Int):=by rw [wrap64 (by omega) (by omega)]; omega
  refine l12a ok gi hm s iF hX lz hi z h26' (w.perm (List.Perm.swap _ _ _)) fun b25 m26 m27 b29 m31 H' hm26 w'=>⟨g.toks.length+1-(n30+1),by omega,?_⟩
  rw [ht1]
  exact I12b.mk (n30+1) rfl (by omega) rfl rfl hm26 w'
 .have z:n30=g.toks.length+1:=by have:=of_decide_eq_false z; omega
  subst z
  obtain ⟨Z',l1,w2,k2⟩:=w.freeze
  intro n1 h1 n2 h2
  refine ⟨1,[.slice a29 (g.toks.length+1) n31],knew_of (ti:=tiII) (lit_kold (if_pos rfl) rfl),?_⟩
  obtain ⟨a',c',H',f1,f2⟩:=((w2.new h1).perm (List.Perm.swap _ _ _)).app (ti:=tiII) (nm:=n2) (m:=1) (new:=[.slice a29 (g.toks.length+1) n31]) h2 rfl rfl (by show i+1<=_; omega) (by decide) (by decide)
  refine ⟨a',_,c',H',f1,?_⟩
  obtain ⟨ad',cp',d1,d2,d3⟩:=hd1_add ad cp (g.toks.length+1) i a29 n31
  refine next Z' _ _ _ _ _ ad' cp' H' l1 (fun j hj=>?_) (by rw [h26',clA_succ]) (by rw [d1,clA_succ]; exact f2)
  by_cases e:j=i
  .subst e; rw [d3]; exact k2
  .rw [d2 j (by omega)]; exact intP.up l1 (hp j (by omega))
theorem c12 {g:Gm} {H:KH} {nl:Int->Bool} {fs fl:Int->Int->Bool} {Q:PQ} (gi:GI H g) (hm:MayG g) (iN:IsN g.prods nl) (iF:IsF g.prods fs) (iL:IsL g.prods g.toks.length fl)
 (hq:∀ a c b d H',Le H H'->RwG H' a g.nts.length (g.toks.length+1) (intP (fun n t=>ent (chG g (mX g.prods nl fs fl) n t)) (g.toks.length+1))->kold H' 4 b (clA (chG g (mX g.prods nl fs fl)) g.nts.length (g.toks.length+1)).length=some (clV (clA (chG g (mX g.prods nl fs fl)) g.nts.length (g.toks.length+1)))->Q (.tuple #[.slice a g.nts.length c,.slice b (clA (chG g (mX g.prods nl fs fl)) g.nts.length (g.toks.length+1)).length d]) H') :
 Does (env Try.prog) 12 [gv g] H Q:=by
 have hN:=hm.n
 refine fn12 ok (c26 ok gi hm.few fun b H2 l2 hb=>⟨b,rfl,fun z=>?_,fun z=>c13 ok (gi.up l2) hm fun Z H' nb fb ob aF cF aO cO Y l3 s jN jF jL=>⟨_,_,_,_,_,_,_,_,_,rfl,?_⟩⟩)
 .rw [hb.2 hm] at z; cases z
 have gH:=gi.up (l2.trans l3)
 have lH:=l2.trans l3
 have eX:mX g.prods nl fs fl=mX g.prods (nlY Y) (fsY g.toks.length Y) (flY g.toks.length Y):=by rw [isN_eq iN jN,isF_eq iF jF,isL_eq iL jL]
 generalize hX:mX g.prods nl fs fl=X at hq eX
 clear hb z
 unfold vc12_L6
 refine ⟨I12c H' g X nb cF cO aF aO,⟨g.nts.length,I12c.mk 0 H' (fun _=>none) (fun _=>0) rfl (by omega) rfl rfl rfl (Le.refl _) (fun j hj=>absurd hj (by omega)) (Rwz.nil (Le.refl _)).none_.none_⟩,?_⟩
 rintro k a4 n5 n6 a7 n8 n9 a10 n11 n12 a13 n14 n15 a16 n17 n18 a19 n20 n21 a22 n23 n24 a25 n26 n27 x28 H29 ⟨⟨rfl,rfl,rfl,rfl,rfl,rfl,rfl,rfl,rfl,rfl,rfl,rfl,rfl,rfl,rfl,rfl,rfl,rfl⟩,i,Z1,ad,cp,rfl,hi,rfl,rfl,h26,lz,hrow,w⟩
 refine ⟨fun z=>?_,fun z=>?_⟩
 .have z:n23<g.nts.length:=by have:=of_decide_eq_true z; omega
  have hi1:IntKind.wrap .i64 (((n23:Nat):Int)+1)=((n23+1:Nat):Int):=by rw [wrap64 (by omega) (by omega)]; omega
  refine l12b ok gH hm s jF eX lz z h26 hrow w fun Z' b22 m24 b25 m26 m27 ad' cp' H'' l1 rt hm26 w'=>⟨g.nts.length-(n23+1),by omega,?_⟩
  rw [hi1]
  exact I12c.mk (n23+1) Z' ad' cp' rfl z rfl rfl hm26 (lz.trans l1) rt w'
 .have z:n23=g.nts.length:=by have:=of_decide_eq_false z; omega
  subst z
  subst h26
  obtain ⟨Z',l1,w2,k2⟩:=w.freeze
  exact hq _ _ _ _ _ (lH.trans (lz.trans w.le)) ⟨ad,cp,w2.le.kold k2,fun j hj=>intP.up (l1.trans w2.le) (hrow j hj)⟩ w2.head.row
end
end Va
end Go.Proofs.Ytibkijpnkmccpaa
namespace Go.Ew
open Go.Ev Go.Deep
theorem exN (G:List Pr):∃ nl,IsN G nl:=⟨fun x=>@decide (Nul G x) (Classical.propDecidable _),fun x=>@decide_eq_true_iff _ (Classical.propDecidable _)⟩
theorem exF (G:List Pr):∃ fs,IsF G fs:=⟨fun x t=>@decide (Fst G x t) (Classical.propDecidable _),fun x t=>@decide_eq_true_iff _ (Classical.propDecidable _)⟩
theorem exL (G:List Pr) (M:Int):∃ fl,IsL G M fl:=⟨fun x t=>@decide (Flw G M x t) (Classical.propDecidable _),fun x t=>@decide_eq_true_iff _ (Classical.propDecidable _)⟩
theorem offP_sorted (ls:List Int) (n:Int) (k:Nat):(offP ls n k).Pairwise (· < ·):=by
 unfold offP
 refine List.pairwise_map.2 ?_
 exact (List.Pairwise.filter _ List.pairwise_lt_range).imp fun h=>by omega
theorem chK_sorted (ls:List Int) (X:Int->Int->Bool) (n t:Int) (k:Nat):(chK ls X n t k).Pairwise (· < ·):=(offP_sorted ls n k).filter _
theorem chG_mem {g:Gm} {X:Int->Int->Bool} {n t x:Int}:x∈chG g X n t↔∃ p:Nat,∃ h:p<g.prods.length,x=p/\g.prods[p].left=n/\X p t=true:=by
 constructor
 .intro h
  obtain ⟨h1,h2⟩:=List.mem_filter.1 h
  obtain ⟨p,hp,rfl,e⟩:=offP_at h1
  rw [lefts_at hp] at e
  exact ⟨p,hp,rfl,Option.some.inj e,h2⟩
 .rintro ⟨p,hp,rfl,e,h2⟩
  refine List.mem_filter.2 ⟨?_,h2⟩
  unfold offP
  refine List.mem_map.2 ⟨p,List.mem_filter.2 ⟨List.mem_range.2 hp,?_⟩,rfl⟩
  rw [lefts_at hp,e]
  exact decide_eq_true rfl
theorem ent_mem {l:List Int} (h:l≠[]):ent l∈l:=by
 cases l with
 | nil=>exact absurd rfl h
 | cons x r=>exact List.mem_cons_self ..
theorem ent_chG (g:Gm) (X:Int->Int->Bool) (n t:Int):ent (chG g X n t) = -1\/∃ p:Nat,∃ h:p<g.prods.length,ent (chG g X n t)=p/\g.prods[p].left=n:=by
 by_cases e:chG g X n t=[]
 .exact .inl (by rw [e]; rfl)
 .obtain ⟨p,hp,h1,h2,_⟩:=chG_mem.1 (ent_mem e)
  exact .inr ⟨p,hp,h1,h2⟩
theorem cl1_mem {n t:Int} {l:List Int} {x:Clh}:x∈cl1 n t l↔x.nt=n/\x.tok=t/\x.a=ent l/\x.b∈l.tail:=by
 unfold cl1
 constructor
 .intro h
  obtain ⟨b,hb,rfl⟩:=List.mem_map.1 h
  exact ⟨rfl,rfl,rfl,hb⟩
 .rintro ⟨rfl,rfl,h,hb⟩
  refine List.mem_map.2 ⟨x.b,hb,?_⟩
  rw [<- h]
theorem clR_mem {f:Int->Int->List Int} {n:Int} {C:Nat} {x:Clh}:x∈clR f n C↔∃ t:Nat,t<C/\x∈cl1 n t (f n t):=by
 unfold clR
 constructor
 .intro h
  obtain ⟨t,ht,h⟩:=List.mem_flatMap.1 h
  exact ⟨t,List.mem_range.1 ht,h⟩
 .rintro ⟨t,ht,h⟩
  exact List.mem_flatMap.2 ⟨t,List.mem_range.2 ht,h⟩
theorem clA_mem {f:Int->Int->List Int} {N C:Nat} {x:Clh}:x∈clA f N C↔∃ n t:Nat,n<N/\t<C/\x∈cl1 n t (f n t):=by
 unfold clA
 constructor
 .intro h
  obtain ⟨n,hn,h⟩:=List.mem_flatMap.1 h
  obtain ⟨t,ht,h⟩:=clR_mem.1 h
  exact ⟨n,t,List.mem_range.1 hn,ht,h⟩
 .rintro ⟨n,t,hn,ht,h⟩
  exact List.mem_flatMap.2 ⟨n,List.mem_range.2 hn,clR_mem.2 ⟨t,ht,h⟩⟩
def Clt (x y:Clh):Prop:=x.nt<y.nt\/(x.nt=y.nt/\(x.tok<y.tok\/(x.tok=y.tok/\x.b<y.b)))
theorem clR_sorted {f:Int->Int->List Int} (h:∀ n t,(f n t).Pairwise (· < ·)) (n:Int):∀ C:Nat,(clR f n C).Pairwise Clt
 | 0=>by simp [clR]
 | C+1=>by
   rw [clR_succ]
   refine List.pairwise_append.2 ⟨clR_sorted h n C,?_,fun x hx y hy=>?_⟩
   .unfold cl1
    refine List.pairwise_map.2 ?_
    exact (h n C).tail.imp fun q=>.inr ⟨rfl,.inr ⟨rfl,q⟩⟩
   .obtain ⟨t,ht,hx⟩:=clR_mem.1 hx
    have hx:=cl1_mem.1 hx
    have hy:=cl1_mem.1 hy
    exact .inr ⟨by rw [hx.1,hy.1],.inl (by rw [hx.2.1,hy.2.1]; omega)⟩
theorem clA_sorted {f:Int->Int->List Int} (h:∀ n t,(f n t).Pairwise (· < ·)) (C:Nat):∀ N:Nat,(clA f N C).Pairwise Clt
 | 0=>by simp [clA]
 | N+1=>by
   rw [clA_succ]
   refine List.pairwise_append.2 ⟨clA_sorted h C N,clR_sorted h N C,fun x hx y hy=>?_⟩
   obtain ⟨n,t,hn,_,hx⟩:=clA_mem.1 hx
   obtain ⟨t',_,hy⟩:=clR_mem.1 hy
   have hx:=cl1_mem.1 hx
   have hy:=cl1_mem.1 hy
   exact .inl (by rw [hx.1,hy.1]; omega)
theorem cl_ok {g:Gm} {X:Int->Int->Bool} {N C:Nat} {x:Clh} (h:x∈clA (chG g X) N C):∃ n t p q:Nat,∃ (hp:p<g.prods.length) (hq:q<g.prods.length),n<N/\t<C/\x.nt=n/\x.tok=t/\x.a=p/\x.b=q/\p<q/\g.prods[p].left=n/\g.prods[q].left=n/\x.a=ent (chG g X n t):=by
 obtain ⟨n,t,hn,ht,h⟩:=clA_mem.1 h
 obtain ⟨h1,h2,h3,h4⟩:=cl1_mem.1 h
 have hs:=chK_sorted (lefts g) X n t g.prods.length
 obtain ⟨q,hq,e1,e2,_⟩:=chG_mem.1 (List.mem_of_mem_tail h4)
 have hne:chG g X n t≠[]:=fun e=>by rw [e] at h4; cases h4
 obtain ⟨p,hp,e3,e4,_⟩:=chG_mem.1 (ent_mem hne)
 have lt:ent (chG g X n t)<x.b:=by
  have hs:(chG g X n t).Pairwise (· < ·):=hs
  revert h4 hs
  cases chG g X n t with
  | nil=>intro h4; cases h4
  | cons y r=>exact fun h4 hs=>(List.pairwise_cons.1 hs).1 _ h4
 exact ⟨n,t,p,q,hp,hq,hn,ht,h1,h2,by rw [h3,e3],e1,by omega,e4,e2,h3⟩
theorem cl_ld {H:KH} {a:OA} {l:List Clh} {i:Nat} (h:kold H 4 a l.length=some (clV l)) (hi:i<l.length):∃ b o,a=some ⟨b,o,none⟩/\ld H ⟨b,o+i*4,none⟩ [.int .i64 l[i].nt,.int .i64 l[i].tok,.int .i64 l[i].a,.int .i64 l[i].b]:=it_ld (k:=4) (f:=fun x:Clh=>[.int .i64 x.nt,.int .i64 x.tok,.int .i64 x.a,.int .i64 x.b]) (fun _=>rfl) h hi
theorem ldC {H:KH} {b o:Nat} {x y z w:Value} (h:ld H ⟨b,o,none⟩ [x,y,z,w]):ld H ⟨b,o+0,none⟩ [x]/\ld H ⟨b,o+1,none⟩ [y]/\ld H ⟨b,o+2,none⟩ [z]/\ld H ⟨b,o+3,none⟩ [w]:=⟨ldSub (m:=1) h 0 (by simp),ldSub (m:=1) h 1 (by simp),ldSub (m:=1) h 2 (by simp),ldSub (m:=1) h 3 (by simp)⟩
end Go.Ew
namespace Go.Proofs.Ytibkijpnkmccpaa
open Go.Ev Go.Ew
namespace Va
section
variable (ok : EnvOk (env Try.prog))
include ok
omit ok in
theorem l6b {g:Gm} {X:Int->Int->Bool} {H:KH} {a b:OA} {c d:Nat} (gi:GI H g) (hm:MayG g) (hT:RwG H a g.nts.length (g.toks.length+1) (intP (fun n t=>ent (chG g X n t)) (g.toks.length+1))) (hC:kold H 4 b (clA (chG g X) g.nts.length (g.toks.length+1)).length=some (clV (clA (chG g X) g.nts.length (g.toks.length+1)))) :
 vc6_L5 g.ta g.toks.length g.tc g.na g.nts.length g.nc g.pa g.prods.length g.pc a g.nts.length c b (clA (chG g X) g.nts.length (g.toks.length+1)).length d H fun v _=>v = .bool true:=by
 have hs:=clA_sorted (f:=chG g X) (fun n t=>chK_sorted _ _ _ _ _) (g.toks.length+1) g.nts.length
 have hlen:=clA_len (f:=chG g X) (fun n t=>Nat.le_trans (chK_len _ _ _ _ _) hm.p.2) (g.toks.length+1) g.nts.length
 have h1:=hm.t
 have h2:=hm.n
 have hl2:g.nts.length*((g.toks.length+1)*16)<=8*((8+1)*16):=Nat.mul_le_mul (by omega) (Nat.mul_le_mul (by omega) (Nat.le_refl _))
 have hok:∀ x∈clA (chG g X) g.nts.length (g.toks.length+1),_:=fun x hx=>cl_ok hx
 generalize hL:clA (chG g X) g.nts.length (g.toks.length+1)=L at *
 unfold vc6_L5
 refine ⟨fun k a4 n5 n6 a7 n8 n9 a10 n11 n12 a13 n14 n15 a16 n17 n18 x19 H20=>(g.ta=a4/\g.toks.length=n5/\g.tc=n6/\g.na=a7/\g.nts.length=n8/\g.nc=n9/\g.pa=a10/\g.prods.length=n11/\g.pc=n12/\a=a13/\g.nts.length=n14/\c=n15/\b=a16/\L.length=n17/\d=n18/\H=H20)/\∃ i:Nat,x19=i/\i<=L.length/\k=L.length-i,⟨L.length,⟨rfl,rfl,rfl,rfl,rfl,rfl,rfl,rfl,rfl,rfl,rfl,rfl,rfl,rfl,rfl,rfl⟩,0,rfl,by omega,rfl⟩,?_⟩
 rintro k a4 n5 n6 a7 n8 n9 a10 n11 n12 a13 n14 n15 a16 n17 n18 x19 H20 ⟨⟨rfl,rfl,rfl,rfl,rfl,rfl,rfl,rfl,rfl,rfl,rfl,rfl,rfl,rfl,rfl,rfl⟩,i,rfl,hi,rfl⟩
 refine ⟨fun z=>?_,fun _=>rfl⟩
 have z:i<L.length:=by have:=of_decide_eq_true z; omega
 have e0:Int.toNat ((i:Nat):Int)=i:=by omega
 have hi1:IntKind.wrap .i64 (((i:Nat):Int)+1)=((i+1:Nat):Int):=by rw [wrap64 (by omega) (by omega)]; omega
 obtain ⟨p1,o1,e1,r1⟩:=cl_ld hC z
 obtain ⟨n,t,p,q,hp,hq,q1,q2,q3,q4,q5,q6,q7,q8,q9,q10⟩:=hok _ (List.getElem_mem z)
 obtain ⟨p2,o2,e2,r2⟩:=pr_ld gi.p hp
 obtain ⟨p3,o3,e3,r3⟩:=pr_ld gi.p hq
 obtain ⟨p4,o4,a4,c4,e4,r4,s4⟩:=hT.at_ q1
 obtain ⟨p5,o5,e5,r5⟩:=fam_ld (k:=1) (fun _=>rfl) s4 q2
 have ev:∀ {P:Prop} {u v:Int},u=v->decide (¬ u=v)=true->P:=fun w z=>absurd w (of_decide_eq_true z)
 have en:Int.toNat ((n:Nat):Int)=n:=by omega
 have et:Int.toNat ((t:Nat):Int)=t:=by omega
 have eq':Int.toNat ((q:Nat):Int)=q:=by omega
 have ep:Int.toNat ((p:Nat):Int)=p:=by omega
 rw [e0,hi1]
 refine ⟨⟨by omega,by omega⟩,p1,o1,e1,_,_,_,_,r1,trivial,?_⟩
 rw [q3,q4,q5,q6,en,et,eq',ep]
 refine ⟨fun z=>absurd (of_decide_eq_true z) (by omega),fun _=>⟨fun z=>absurd (of_decide_eq_true z) (by omega),fun _=>⟨fun z=>absurd (of_decide_eq_true z) (by omega),fun _=>⟨fun z=>absurd (of_decide_eq_true z) (by omega),fun _=>⟨fun z=>absurd (of_decide_eq_true z) (by omega),fun _=>⟨fun z=>absurd (of_decide_eq_true z) (by omega),fun _=>⟨fun z=>absurd (of_decide_eq_true z) (by omega),fun _=>?_⟩⟩⟩⟩⟩⟩⟩
 refine ⟨⟨by omega,by omega⟩,p2,o2,e2,rfl,_,ldSub (m:=1) r2 0 (by simp),ev q8,fun _=>⟨⟨by omega,by omega⟩,p3,o3,e3,rfl,_,ldSub (m:=1) r3 0 (by simp),ev q9,fun _=>⟨⟨by omega,by omega⟩,p4,o4,e4,_,_,_,r4,⟨by omega,by omega⟩,p5,o5,e5,_,r5,ev (q10.symm.trans q5),fun _=>?_⟩⟩⟩
 have nx:∃ m,m<L.length-i/\(g.ta=g.ta/\g.toks.length=g.toks.length/\g.tc=g.tc/\g.na=g.na/\g.nts.length=g.nts.length/\g.nc=g.nc/\g.pa=g.pa/\g.prods.length=g.prods.length/\g.pc=g.pc/\a=a/\g.nts.length=g.nts.length/\c=c/\b=b/\L.length=L.length/\d=d/\H=H)/\∃ j:Nat,((i+1:Nat):Int)=j/\j<=L.length/\m=L.length-j:=⟨L.length-(i+1),by omega,⟨rfl,rfl,rfl,rfl,rfl,rfl,rfl,rfl,rfl,rfl,rfl,rfl,rfl,rfl,rfl,rfl⟩,i+1,rfl,z,rfl⟩
 refine ⟨trivial,fun y=>?_,fun _=>nx⟩
 have y:0<i:=by have:=of_decide_eq_true y; omega
 have w1:IntKind.wrap .i64 (((i:Nat):Int)-1)=((i-1:Nat):Int):=by rw [wrap64 (by omega) (by omega)]; omega
 have w0:Int.toNat ((i-1:Nat):Int)=i-1:=by omega
 have z1:i-1<L.length:=by omega
 obtain ⟨p6,o6,e6,r6⟩:=cl_ld hC z1
 obtain ⟨d0,d1,d2,d3⟩:=ldC r6
 have lt:=List.pairwise_iff_getElem.1 hs (i-1) i z1 z (by omega)
 unfold Clt at lt
 rw [q3,q4,q6] at lt
 rw [w1,w0]
 have bo:0<=((i-1:Nat):Int)/\((i-1:Nat):Int)<((L.length:Nat):Int):=⟨by omega,by omega⟩
 refine ⟨bo,p6,o6,e6,rfl,_,d0,fun z=>absurd (of_decide_eq_true z) (by omega),fun _=>⟨bo,p6,o6,e6,rfl,_,d0,fun u1=>⟨bo,p6,o6,e6,rfl,_,d1,fun z=>?_,fun _=>⟨bo,p6,o6,e6,rfl,_,d1,fun u2=>⟨bo,p6,o6,e6,rfl,_,d3,fun z=>?_,fun _=>nx⟩,fun _=>nx⟩⟩,fun _=>nx⟩⟩
 .have u1:=of_decide_eq_true u1
  exact absurd (of_decide_eq_true z) (by omega)
 .have u1:=of_decide_eq_true u1
  have u2:=of_decide_eq_true u2
  exact absurd (of_decide_eq_true z) (by omega)
omit ok in
theorem l6a {g:Gm} {X:Int->Int->Bool} {H:KH} {a b:OA} {c d:Nat} (gi:GI H g) (hm:MayG g) (hT:RwG H a g.nts.length (g.toks.length+1) (intP (fun n t=>ent (chG g X n t)) (g.toks.length+1))) (hC:kold H 4 b (clA (chG g X) g.nts.length (g.toks.length+1)).length=some (clV (clA (chG g X) g.nts.length (g.toks.length+1)))) :
 vc6_L6 g.ta g.toks.length g.tc g.na g.nts.length g.nc g.pa g.prods.length g.pc a g.nts.length c b (clA (chG g X) g.nts.length (g.toks.length+1)).length d H fun v _=>v = .bool true:=by
 have h1:=hm.t
 have h2:=hm.n
 have h3:=hm.p
 have fin:=l6b (c:=c) (d:=d) gi hm hT hC
 generalize (clA (chG g X) g.nts.length (g.toks.length+1)).length=L at *
 have eM:IntKind.wrap .i64 ((g.toks.length:Int)+1)=((g.toks.length+1:Nat):Int):=by rw [wrap64 (by omega) (by omega)]; omega
 unfold vc6_L6
 refine ⟨fun k a4 n5 n6 a7 n8 n9 a10 n11 n12 a13 n14 n15 a16 n17 n18 x19 H20=>(g.ta=a4/\g.toks.length=n5/\g.tc=n6/\g.na=a7/\g.nts.length=n8/\g.nc=n9/\g.pa=a10/\g.prods.length=n11/\g.pc=n12/\a=a13/\g.nts.length=n14/\c=n15/\b=a16/\L=n17/\d=n18/\H=H20)/\∃ i:Nat,x19=i/\i<=g.nts.length/\k=g.nts.length-i,⟨g.nts.length,⟨rfl,rfl,rfl,rfl,rfl,rfl,rfl,rfl,rfl,rfl,rfl,rfl,rfl,rfl,rfl,rfl⟩,0,rfl,by omega,rfl⟩,?_⟩
 rintro k a4 n5 n6 a7 n8 n9 a10 n11 n12 a13 n14 n15 a16 n17 n18 x19 H20 ⟨⟨rfl,rfl,rfl,rfl,rfl,rfl,rfl,rfl,rfl,rfl,rfl,rfl,rfl,rfl,rfl,rfl⟩,i,rfl,hi,rfl⟩
 refine ⟨fun z=>?_,fun _=>fin⟩
 have z:i<g.nts.length:=by have:=of_decide_eq_true z; omega
 have e0:Int.toNat ((i:Nat):Int)=i:=by omega
 have hi1:IntKind.wrap .i64 (((i:Nat):Int)+1)=((i+1:Nat):Int):=by rw [wrap64 (by omega) (by omega)]; omega
 obtain ⟨p4,o4,a4,c4,e4,r4,s4⟩:=hT.at_ z
 rw [e0,eM]
 refine ⟨trivial,⟨by omega,by omega⟩,p4,o4,e4,_,_,_,r4,fun z=>absurd rfl (of_decide_eq_true z),fun _=>?_⟩
 unfold vc6_L1
 refine ⟨fun k b4 n5 n6 b7 n8 n9 b10 n11 n12 a13 n14 n15 a16 n17 n18 x19 x20 H21=>(g.ta=b4/\g.toks.length=n5/\g.tc=n6/\g.na=b7/\g.nts.length=n8/\g.nc=n9/\g.pa=b10/\g.prods.length=n11/\g.pc=n12/\a=a13/\g.nts.length=n14/\c=n15/\b=a16/\L=n17/\d=n18/\((i:Nat):Int)=x19/\H=H21)/\∃ j:Nat,x20=j/\j<=g.toks.length+1/\k=g.toks.length+1-j,⟨g.toks.length+1,⟨rfl,rfl,rfl,rfl,rfl,rfl,rfl,rfl,rfl,rfl,rfl,rfl,rfl,rfl,rfl,rfl,rfl⟩,0,rfl,by omega,rfl⟩,?_⟩
 rintro k b4 n5 n6 b7 n8 n9 b10 n11 n12 a13 n14 n15 a16 n17 n18 x19 x20 H21 ⟨⟨rfl,rfl,rfl,rfl,rfl,rfl,rfl,rfl,rfl,rfl,rfl,rfl,rfl,rfl,rfl,rfl,rfl⟩,j,rfl,hj,rfl⟩
 rw [e0]
 refine ⟨⟨by omega,by omega⟩,p4,o4,e4,_,_,_,r4,fun y=>?_,fun _=>?_⟩
 .have y:j<g.toks.length+1:=by have:=of_decide_eq_true y; omega
  have f0:Int.toNat ((j:Nat):Int)=j:=by omega
  have hj1:IntKind.wrap .i64 (((j:Nat):Int)+1)=((j+1:Nat):Int):=by rw [wrap64 (by omega) (by omega)]; omega
  obtain ⟨p5,o5,e5,r5⟩:=fam_ld (k:=1) (fun _=>rfl) s4 y
  have hv:=ent_chG g X i j
  rw [f0,hj1]
  have nx:∃ m,m<g.toks.length+1-j/\(g.ta=g.ta/\g.toks.length=g.toks.length/\g.tc=g.tc/\g.na=g.na/\g.nts.length=g.nts.length/\g.nc=g.nc/\g.pa=g.pa/\g.prods.length=g.prods.length/\g.pc=g.pc/\a=a/\g.nts.length=g.nts.length/\c=c/\b=b/\L=L/\d=d/\((i:Nat):Int)=i/\H=H)/\∃ j':Nat,((j+1:Nat):Int)=j'/\j'<=g.toks.length+1/\m=g.toks.length+1-j':=⟨g.toks.length+1-(j+1),by omega,⟨rfl,rfl,rfl,rfl,rfl,rfl,rfl,rfl,rfl,rfl,rfl,rfl,rfl,rfl,rfl,rfl,rfl⟩,j+1,rfl,y,rfl⟩
  refine ⟨⟨by omega,by omega⟩,p4,o4,e4,_,_,_,r4,⟨by omega,by omega⟩,p5,o5,e5,ent (chG g X i j),r5,?_⟩
  generalize ent (chG g X i j)=v at hv
  rcases hv with rfl | ⟨p,hp,rfl,e⟩
  .exact ⟨fun z=>absurd (of_decide_eq_true z) (by omega),fun _=>⟨fun z=>absurd (of_decide_eq_true z) (by omega),fun _=>⟨fun z=>absurd (of_decide_eq_true z) (by omega),fun _=>nx⟩⟩⟩
  .obtain ⟨p2,o2,e2,r2⟩:=pr_ld gi.p hp
   have ep:Int.toNat ((p:Nat):Int)=p:=by omega
   rw [ep]
   exact ⟨fun z=>absurd (of_decide_eq_true z) (by omega),fun _=>⟨fun z=>absurd (of_decide_eq_true z) (by omega),fun _=>⟨fun _=>⟨⟨by omega,by omega⟩,p2,o2,e2,rfl,_,ldSub (m:=1) r2 0 (by simp),fun z=>absurd e (of_decide_eq_true z),fun _=>nx⟩,fun _=>nx⟩⟩⟩
 .rw [hi1]
  exact ⟨g.nts.length-(i+1),by omega,⟨rfl,rfl,rfl,rfl,rfl,rfl,rfl,rfl,rfl,rfl,rfl,rfl,rfl,rfl,rfl,rfl⟩,i+1,rfl,z,rfl⟩
theorem c6 {a:OA} {n c:Nat} {H:KH} (hl:∀ i,i<n->∃ b o x,a=some ⟨b,o,none⟩/\ld H ⟨b,o+i,none⟩ [.int .u8 x]/\0<=x/\x<=255):Does (env Try.prog) 6 [.slice a n c] H fun v _=>v = .bool true:=by
 refine fn6 ok (c7 ⟨true,rfl,fun z=>(by cases z),fun _=>⟨fun _=>rfl,fun z=>?_⟩⟩)
 have hn:n<=150:=by have:=of_decide_eq_false z; omega
 have hb:PkB H a n:=⟨hl,hn⟩
 refine c8 ok hb fun p H2 _ h=>⟨p,0,rfl,c9 ok hb h fun g Z' H6 hZ s h1 h2 hg=>⟨_,_,_,_,_,_,_,_,_,rfl,?_⟩⟩
 have gi:=s.gi h1 h2
 clear s h1 h2 h hb z
 obtain ⟨nl,iN⟩:=exN g.prods
 obtain ⟨fs,iF⟩:=exF g.prods
 obtain ⟨fl,iL⟩:=exL g.prods g.toks.length
 exact c11 ok gi hg iN iF iL fun a c b d H17 l hT hC=>⟨_,_,_,_,_,_,rfl,fun z=>absurd rfl (of_decide_eq_true z),fun _=>l6a (gi.up l) hg hT hC⟩
end
end Va
end Go.Proofs.Ytibkijpnkmccpaa
namespace Go.Proofs.Ytibkijpnkmccpaa
open Go.Ev Go.Ew Go.RowKit
namespace Va
theorem tys:tysOk Try.prog tyL:=by unfold tysOk; kernel_rfl
theorem mixed:Try.prog.follows .mixedOrders=true:=by kernel_rfl
theorem own:ownKnob Try.prog.godebug=none:=by kernel_rfl
def fnB7:List Nat:=[7,10,11,17,18,19,20,21,22,23,24,25,31,32,33,34,35,36,38,39,40,41,42,43,44,45,46,47,48,49,50,52,53,54,55,56,57,58,59,60,61,62,63,64,65,66,67,68,69,70,71,72,73,74,75,76,77,78,79,80,81,82,83,84,110]
def xtB7:List (Nat × Nat):=[]
theorem fnsB7:(fnsOf Try.prog fnB7).all (fnOk (envOf Try.prog tyL fnB7 plL xtB7))=true:=by kernel_rfl
theorem okB7:EnvOk (envOf Try.prog tyL fnB7 plL xtB7):=env_ok tys mixed fnsB7 (fun g hg=>by simp [xtB7] at hg) (fun g hg=>by simp [xtB7] at hg) (fun g hg=>by simp [xtB7] at hg)
theorem hereB7:(tget (envOf Try.prog tyL fnB7 plL xtB7).ff 7).isSome=true:=by kernel_rfl
set_option maxRecDepth 100000 in
theorem runsB7:callK (envOf Try.prog tyL fnB7 plL xtB7) 1000000 1000 7 [] ⟨.nil,0⟩ kTrue=True:=by kernel_rfl
theorem walkB7 (w:World):Calls Try.prog 7 #[] w fun e w'=>e = .returned (.bool true)/\Below w.heap.size w w':=by
 obtain ⟨fn,hfn⟩:=Option.isSome_iff_exists.1 hereB7
 exact law_fast okB7 hfn (by unfold unkU; omega) runsB7 w
theorem nameB7 : (Try.f7.name == "runtime.NumGoroutine") = false := by kernel_rfl
theorem bodyB7:Try.f7.body.isNone=false:=by kernel_rfl
theorem enterB7 (w:World):(callFunc 7 #[]).run Try.prog w = .ok (.enter 7 #[]) w:=by
 simp only [callFunc,Sem.run_bind,run_program,Result.andThen_ok,Try.func7,nameB7,bodyB7,Bool.false_eq_true,if_false,Sem.run_pure]
theorem fns:(fnsOf Try.prog fnL).all (fnOk (env Try.prog))=true:=by kernel_rfl
theorem ok:EnvOk (env Try.prog):=env_ok tys mixed fns (fun g hg=>by simp [xtL] at hg) (fun g hg=>by simp [xtL] at hg) (fun g hg=>by
 have e:g=7:=by simpa [xtL] using hg
 subst e
 exact fun w=>⟨enterB7 w,walkB7 w⟩)
end Va
end Go.Proofs.Ytibkijpnkmccpaa
namespace Go.Ew
open Go.Ev Go.Deep Go.RowKit
def treeOf {α:Type} (f:Nat->Option α):Nat->BT (Option α)
 | 0=>.nil
 | n+1=>tset (treeOf f n) n (f n)
theorem tree_get {α:Type} (f:Nat->Option α):∀ n k,tget (treeOf f n) k=if k<n then f k else none
 | 0,k=>by simp [treeOf,tget]
 | n+1,k=>by
   rw [treeOf,tget_tset,tree_get f n]
   by_cases e:n=k
   .subst e; simp
   .rw [if_neg e]
    by_cases h:k<n
    .rw [if_pos h,if_pos (by omega)]
    .rw [if_neg h,if_neg (by omega)]
def absV (N:Nat):Value->Option Value
 | .pointer (some a)=>if a.spot=none/\a.block<N then some (.pointer (some a)) else none
 | .slice (some a) l c=>if a.spot=none/\a.block<N/\c<unkU then some (.slice (some a) l c) else if l=0 then some vague else none
 | v=>if isPlain v=true then some v else none
def thW (N:Nat):Th:=fun n=>if n<N then some (n,0,0) else none
theorem absV_S {N:Nat} {v u:Value} (h:absV N v=some u):S (thW N) u v:=by
 unfold absV at h
 split at h
 .rename_i a
  split at h
  .rename_i hq
   cases h
   refine ⟨hq.1,(a.block,0,0),by simp [thW,hq.2],?_⟩
   obtain ⟨b,o,sp⟩:=a
   obtain ⟨h1,h2⟩:=hq
   cases h1
   simp
  .cases h
 .rename_i a l c
  split at h
  .rename_i hq
   cases h
   obtain ⟨b,o,sp⟩:=a
   obtain ⟨h1,h2,h3⟩:=hq
   cases h1
   exact .inl ⟨rfl,(b,0,0),c,by simp only at h2; simp [thW,h2],.inl ⟨h3,rfl⟩,by simp⟩
  .split at h
   .rename_i hl
    cases h
    subst hl
    exact .inr ⟨by simp,rfl,Nat.le_refl _,_,_,rfl⟩
   .cases h
 .split at h
  .rename_i hp
   cases h
   exact S_plain hp
  .cases h
def bsz (w:World) (b:Nat):Nat:=match w.heap[b]? with
 | some (.cells c _ _)=>c.size
 | _=>0
def blkOf (w:World) (b:Nat) (i:Nat):Option Value:=match w.cell? ⟨b,i,none⟩ with
 | some v=>if w.frozen? ⟨b,i,none⟩=false then absV w.heap.size v else none
 | none=>none
def entW (w:World) (b:Nat):Ent:=⟨treeOf (blkOf w b) (bsz w b),0,roU,none⟩
def KW (w:World):KH:=fun b=>if b<w.heap.size then some (entW w b) else none
def snapW (w:World):Hp:=⟨treeOf (fun b=>some (entW w b)) w.heap.size,w.heap.size⟩
theorem snap_get (w:World) (k:Nat):tget (snapW w).m k=KW w k:=tree_get _ _ _
theorem KW_some {w:World} {k:Nat} {e:Ent} (h:KW w k=some e):k<w.heap.size/\e=entW w k:=by
 unfold KW at h
 split at h
 .rename_i q; cases h; exact ⟨q,rfl⟩
 .cases h
theorem HR_snap [LG] (w:World):HR (thW w.heap.size) (snapW w) w:=by
 refine ⟨fun n e x he hx=>?_,fun n m e e' x y h1 h2 hne h3 h4=>?_,fun n hn=>?_⟩
 .rw [snap_get] at he
  obtain ⟨h1,rfl⟩:=KW_some he
  have hx':x=(n,0,0):=by
   simp only [thW,if_pos h1,Option.some.injEq] at hx
   exact hx.symm
  subst hx'
  refine ⟨hx,h1,fun i v hi=>?_,fun o ho=>(by cases ho),fun hu=>⟨by simp [entW],fun i hi=>by simp at hi⟩⟩
  simp only [entW,tree_get] at hi
  split at hi
  .unfold blkOf at hi
   simp only [Nat.zero_add]
   cases hc:w.cell? ⟨n,i,none⟩ with
   | none=>rw [hc] at hi; cases hi
   | some u =>
     rw [hc] at hi
     simp only at hi
     split at hi
     .rename_i hf
      exact ⟨⟨u,rfl,absV_S hi⟩,hf⟩
     .cases hi
  .cases hi
 .unfold thW at h3 h4
  split at h3
  .split at h4
   .cases h3; cases h4; exact hne
   .cases h4
  .cases h3
 .have:¬ n<w.heap.size:=by have:w.heap.size<=n:=hn; omega
  simp [thW,this]
theorem cell_lt {w:World} {b o:Nat} {v:Value} (h:w.cell? ⟨b,o,none⟩=some v):b<w.heap.size/\o<bsz w b:=by
 unfold World.cell? at h
 unfold bsz
 cases hb:w.heap[b]? with
 | none=>simp [hb] at h
 | some ob =>
   refine ⟨(Array.getElem?_eq_some_iff.1 hb).1,?_⟩
   rw [hb] at h
   cases ob<;>simp at h ⊢
   rename_i c t fr
   exact (Array.getElem?_eq_some_iff.1 h).1
theorem KW_cell {w:World} {b o:Nat} {v u:Value} (h:w.cell? ⟨b,o,none⟩=some v) (hf:w.frozen? ⟨b,o,none⟩=false) (ha:absV w.heap.size v=some u):∃ e,KW w b=some e/\tget e.cells o=some u:=by
 obtain ⟨h1,h2⟩:=cell_lt h
 refine ⟨entW w b,by unfold KW; rw [if_pos h1],?_⟩
 simp only [entW,tree_get,if_pos h2]
 unfold blkOf
 rw [h]
 simp only [hf,if_true,ha]
theorem KW_ld {w:World} {b o:Nat} {v u:Value} (h:w.cell? ⟨b,o,none⟩=some v) (hf:w.frozen? ⟨b,o,none⟩=false) (ha:absV w.heap.size v=some u):ld (KW w) ⟨b,o,none⟩ [u]:=by
 obtain ⟨e,h1,h2⟩:=KW_cell h hf ha
 refine ⟨rfl,e,h1,?_⟩
 simp only [List.length_singleton,rd,h2]
theorem top {E:Env} (hE:EnvOk E) {g:Nat} {fn:Func} (hfn:tget E.ff g=some fn) {args cargs:List Value} {w:World} {v:Value} (hp:isPlain v=true) (hD:Does E g args (KW w) fun r _=>r=v) (ha:all2 (W (thW w.heap.size)) args cargs) :
 Calls E.P g cargs.toArray w fun e w'=>e = .returned v/\Below w.heap.size w w':=by
 letI:=lgOf E
 obtain ⟨r,h',H',⟨n,hrun⟩,hq,_⟩:=hD.run (snapW w) (fun k hk=>by
  rw [snap_get]
  have:¬ k<w.heap.size:=by have:w.heap.size<=k:=hk; omega
  simp [KW,this]) (fun k e q=>by rw [snap_get]; exact q)
 subst hq
 rcases (call_sound hE (lgOf_ok E) (ev_sound hE (lgOf_ok E) n) (snapW w) g args r h' (hrun n (Nat.le_refl _)) (thW w.heap.size) w cargs (HR_snap w) ha).1 hD.lt with ⟨_,h2⟩ | ⟨u,h1,_,_⟩
 .refine h2.mono fun e w' hq=>?_
  obtain ⟨θ',u,rfl,q1,q2,q3⟩:=hq
  rw [W_plain hp q3]
  refine ⟨rfl,q1.os,q1.tape,q1.output,q1.size,fun k hk=>q1.frame k hk fun n e x q hu _=>?_⟩
  rw [snap_get] at q
  obtain ⟨_,rfl⟩:=KW_some q
  exact absurd rfl hu
 .exfalso
  obtain ⟨f1,f2,c',f3,_⟩:=hE.ff g fn hfn
  have f2' : ¬ fn.name = "runtime.NumGoroutine" := fun e => by rw [e] at f2; simp at f2
  simp [callFunc,f1,f2',f3] at h1
section
variable {H : Type} {enc : TypeId × Value -> H} {P : Program} {w : World}
theorem cells_get {b n:Nat} {a:Addr} {cs:List Value} (h:w.cells? b a n=some cs):cs.length=n/\∀ i v,cs[i]? = some v->w.cell? (a.add i)=some v:=by
 unfold World.cells? at h
 split at h
 .refine ⟨by simpa using mapM_some_length h,fun i v hv=>?_⟩
  have hi:i<n:=by
   have:=mapM_some_length h
   rcases Nat.lt_or_ge i n with q | q
   .exact q
   .rw [List.getElem?_eq_none (by simp at this; omega)] at hv; cases hv
  have:=mapM_some_get h i i (by simp [hi])
  rw [this]; exact hv
 .cases h
theorem cell_spot {a:Addr} {v:Value} (h:w.cell? a=some v):a.spot=none:=by
 unfold World.cell? at h
 cases hs:a.spot with
 | none=>rfl
 | some s =>
   rw [hs] at h
   split at h<;>simp_all
theorem arg_slice {t e:TypeId} {v:Value} {d:DataW H} {ps:List MemPlace} (ht:P.underlying t=some (.slice e)) (he:P.cellsOf e=1) (h:DataW.Trod enc P w 0 (fun _=>true) true t v d ps) (hf:w.noneFrozen ps) (hv:∃ a l c,v = .slice a l c) :
 ∃ a n c,absV w.heap.size v=some (.slice a n c)/\∀ i,i<n->∃ b o x y m,a=some ⟨b,o,none⟩/\w.cell? ⟨b,o+i,none⟩=some x/\w.frozen? ⟨b,o+i,none⟩=false/\DataW.trod enc P w 0 (fun _=>true) true m e [x]=some y/\∀ p∈y.2,p∈ps:=by
 obtain ⟨fuel,hd⟩:=h
 obtain ⟨a0,l0,c0,rfl⟩:=hv
 have hcs:(Value.slice a0 l0 c0).cells.toList=[.slice a0 l0 c0]:=rfl
 rw [hcs] at hd
 rcases DataW.trod_slice ht hd with ⟨h1,h2⟩ | ⟨a,len,cap,elems,rest,n,_,h1,h2,_,h3,h4,h5,h6,_⟩
 .cases h1
  exact ⟨none,0,0,rfl,fun i hi=>by omega⟩
 .cases h1
  simp only [Prod.mk.injEq] at h2
  obtain ⟨rfl,rfl⟩:=h2
  have hmax:maxLen<unkU:=by decide
  by_cases hl:l0=0
  .subst hl
   have hab:absV w.heap.size (.slice (some a) 0 c0)=if a.spot=none/\a.block<w.heap.size/\c0<unkU then some (.slice (some a) 0 c0) else if 0=0 then some vague else none:=rfl
   by_cases hq:a.spot=none/\a.block<w.heap.size/\c0<unkU
   .rw [if_pos hq] at hab
    exact ⟨_,_,_,hab,fun i hi=>by omega⟩
   .rw [if_neg hq,if_pos rfl] at hab
    exact ⟨_,_,_,hab,fun i hi=>by omega⟩
  .have elem:∀ i,i<l0->∃ x y,w.cell? (a.add i)=some x/\DataW.trod enc P w 0 (fun _=>true) true n e [x]=some y/\y∈elems:=by
    intro i hi
    have h7:=h6 i hi
    rw [List.getElem?_eq_getElem (by omega)] at h7
    obtain ⟨cs,k1,k2⟩:=Option.bind_eq_some_iff.1 h7
    obtain ⟨k3,k4⟩:=cells_get k1
    rw [he] at k3 k4
    match cs,k3 with
    | [x],_ =>
      have k5:=k4 0 x rfl
      have e1:(a.add (i*1)).add 0=a.add i:=by
       rw [Nat.mul_one]
       generalize a.add i=z
       obtain ⟨b,o,sp⟩:=z
       unfold Addr.add
       simp
      rw [e1] at k5
      exact ⟨x,_,k5,k2,List.getElem_mem _⟩
   obtain ⟨x0,_,c1,_,_⟩:=elem 0 (by omega)
   have hs:a.spot=none:=by
    have:=cell_spot c1
    obtain ⟨b,o,sp⟩:=a
    unfold Addr.add at this
    simpa using this
   obtain ⟨b,o,sp⟩:=a
   cases hs
   rw [add_addr] at c1
   have hb:=(cell_lt c1).1
   have hcu:c0<unkU:=by omega
   refine ⟨some ⟨b,o,none⟩,l0,c0,by simp [absV,hb,hcu],fun i hi=>?_⟩
   obtain ⟨x,y,k1,k2,k3⟩:=elem i hi
   rw [add_addr] at k1
   refine ⟨b,o,x,y,n,rfl,k1,hf b (o+i) ?_,k2,fun p hp=>?_⟩
   .refine List.mem_append_left _ ?_
    unfold MemPlace.row
    rw [he,Nat.mul_one]
    exact List.mem_map.2 ⟨i,by simp; omega,rfl⟩
   .refine List.mem_append_right _ (List.mem_flatMap.2 ⟨y,by simp [k3],hp⟩)
theorem trod_int {t:TypeId} {k:IntKind} {x:Value} {m:Nat} {y:DataW H × List MemPlace} (ht:P.underlying t=some (.int k)) (h:DataW.trod enc P w 0 (fun _=>true) true m t [x]=some y):∃ n,x = .int k n/\(Lit.int k n).wf=true/\y=(.lit (.int k n),[]):=by
 cases m with
 | zero=>simp [DataW.trod] at h
 | succ m =>
   unfold DataW.trod at h
   rw [ht] at h
   cases x<;>simp at h
   rename_i k' n
   obtain ⟨⟨rfl,h2⟩,h3⟩:=h
   exact ⟨n,rfl,h2,h3.symm⟩
theorem trodAll_below {W W':World} (hl:laidOutB P=true) (hb:Below W.heap.size W W'):∀ (ts:List TypeId) (vs:List Value) (ds:List (DataW H)) (ps:List MemPlace),(∀ t∈ts,P.readableRec t=true/\t<P.types.size)->
 DataW.TrodAll enc P W 0 (fun _=>true) true ts vs ds ps->(∀ x∈ps,x.block<W.heap.size)->DataW.TrodAll enc P W' 0 (fun b=>decide (b<W.heap.size)) true ts vs ds ps
 | [],[],[],ps,_,h,_=>h
 | t :: ts,v :: vs,d :: ds,ps,ht,⟨p,q,h1,h2,h3⟩,hlt=>by
   subst h3
   exact ⟨p,q,Below.trod hl (ht t (by simp)).1 (ht t (by simp)).2 h1 hb (fun x hx=>hlt x (by simp [hx])),trodAll_below hl hb ts vs ds q (fun t' h'=>ht t' (by simp [h'])) h2 (fun x hx=>hlt x (by simp [hx])),rfl⟩
 | [],_ :: _,_,_,_,h,_=>by cases h
 | [],[],_ :: _,_,_,h,_=>by cases h
 | _ :: _,[],_,_,_,h,_=>by cases h
 | _ :: _,_ :: _,[],_,_,h,_=>by cases h
theorem arg_u8 {t e:TypeId} {v:Value} {d:DataW H} {ps:List MemPlace} (ht:P.underlying t=some (.slice e)) (he:P.cellsOf e=1) (hu:P.underlying e=some (.int .u8)) (h:DataW.Trod enc P w 0 (fun _=>true) true t v d ps) (hf:w.noneFrozen ps) (hv:∃ a l c,v = .slice a l c) :
 ∃ a n c,absV w.heap.size v=some (.slice a n c)/\∀ i,i<n->∃ b o x,a=some ⟨b,o,none⟩/\ld (KW w) ⟨b,o+i,none⟩ [.int .u8 x]/\0<=x/\x<=255:=by
 obtain ⟨a,n,c,h1,h2⟩:=arg_slice ht he h hf hv
 refine ⟨a,n,c,h1,fun i hi=>?_⟩
 obtain ⟨b,o,x,y,m,k1,k2,k3,k4,_⟩:=h2 i hi
 obtain ⟨z,rfl,hz,_⟩:=trod_int hu k4
 refine ⟨b,o,z,k1,KW_ld k2 k3 rfl,?_⟩
 simp only [Lit.wf,Bool.and_eq_true,decide_eq_true_eq] at hz
 have e1:IntKind.min .u8=0:=by decide
 have e2:IntKind.max .u8=255:=by decide
 omega
theorem absV_W {N:Nat} {v u:Value} (h:absV N v=some u):W (thW N) u v:=W_of_S (absV_S h)
theorem arg_byte {t:TypeId} {v:Value} {d:DataW H} {ps:List MemPlace} (ht:P.underlying t=some (.int .u8)) (h:DataW.Trod enc P w 0 (fun _=>true) true t v d ps) (hv:∃ n,v = .int .u8 n):∃ n:Nat,v = .int .u8 n/\n<=255:=by
 obtain ⟨m,rfl⟩:=hv
 obtain ⟨fuel,hd⟩:=h
 obtain ⟨z,e,hz,_⟩:=trod_int ht hd
 cases e
 simp only [Lit.wf,Bool.and_eq_true,decide_eq_true_eq] at hz
 have e1:IntKind.min .u8=0:=by decide
 have e2:IntKind.max .u8=255:=by decide
 exact ⟨m.toNat,by congr 1; omega,by omega⟩
end
end Go.Ew
namespace Go.Ew
open Go.Ev Go.Deep
theorem same4 {x y z w:Int} {P:Prop} (h:(!((decide (x=x))&&((decide (y=y))&&((decide (z=z))&&((decide (w=w))&&true)))))=true):P:=by simp at h
end Go.Ew
namespace Go.Proofs.Ytibkijpnkmccpaa
open Go.Ev Go.Ew
namespace Va
section
theorem l3a {N C n n5 n6 c1 c2:Nat} {e:Int->Int->Int} {a4 t1 t2:OA} {x7:Int} {H:KH} {Q:PQ} {J:Nat->OA->Nat->Nat->Int->KH->Prop} (hN:N<=1000) (hC:C<=1000) (h1:RwG H t1 N C (intP e C)) (h2:RwG H t2 N C (intP e C)) (hJ:∃ m,m<n/\J m a4 n5 n6 (IntKind.wrap .i64 (x7+1)) H) :
 vc3_L4 a4 n5 n6 x7 t1 N c1 t2 N c2 H Q n J:=by
 unfold vc3_L4
 refine ⟨fun k b4 m5 m6 y7 a8 n9 n10 a11 n12 n13 x14 H15=>(a4=b4/\n5=m5/\n6=m6/\x7=y7/\t1=a8/\N=n9/\c1=n10/\t2=a11/\N=n12/\c2=n13/\H=H15)/\∃ i:Nat,x14=i/\i<=N/\k=N-i,⟨N,⟨rfl,rfl,rfl,rfl,rfl,rfl,rfl,rfl,rfl,rfl,rfl⟩,0,rfl,by omega,rfl⟩,?_⟩
 rintro k b4 m5 m6 y7 a8 n9 n10 a11 n12 n13 x14 H15 ⟨⟨rfl,rfl,rfl,rfl,rfl,rfl,rfl,rfl,rfl,rfl,rfl⟩,i,rfl,hi,rfl⟩
 refine ⟨fun z=>?_,fun _=>hJ⟩
 have z:i<N:=by have:=of_decide_eq_true z; omega
 have e0:Int.toNat ((i:Nat):Int)=i:=by omega
 have hi1:IntKind.wrap .i64 (((i:Nat):Int)+1)=((i+1:Nat):Int):=by rw [wrap64 (by omega) (by omega)]; omega
 obtain ⟨p1,o1,u1,d1,e1,r1,s1⟩:=h1.at_ z
 obtain ⟨p2,o2,u2,d2,e2,r2,s2⟩:=h2.at_ z
 have bo:0<=((i:Nat):Int)/\((i:Nat):Int)<(N:Int):=⟨by omega,by omega⟩
 rw [e0]
 refine ⟨trivial,bo,p1,o1,e1,_,_,_,r1,bo,p2,o2,e2,_,_,_,r2,fun q=>absurd rfl (of_decide_eq_true q),fun _=>?_⟩
 unfold vc3_L2
 refine ⟨fun k b4 m5 m6 y7 a8 n9 n10 a11 n12 n13 x14 x15 H16=>(a4=b4/\n5=m5/\n6=m6/\x7=y7/\t1=a8/\N=n9/\c1=n10/\t2=a11/\N=n12/\c2=n13/\((i:Nat):Int)=x14/\H=H16)/\∃ j:Nat,x15=j/\j<=C/\k=C-j,⟨C,⟨rfl,rfl,rfl,rfl,rfl,rfl,rfl,rfl,rfl,rfl,rfl,rfl⟩,0,rfl,by omega,rfl⟩,?_⟩
 rintro k b4 m5 m6 y7 a8 n9 n10 a11 n12 n13 x14 x15 H16 ⟨⟨rfl,rfl,rfl,rfl,rfl,rfl,rfl,rfl,rfl,rfl,rfl,rfl⟩,j,rfl,hj,rfl⟩
 rw [e0]
 refine ⟨bo,p2,o2,e2,_,_,_,r2,fun y=>?_,fun _=>?_⟩
 .have y:j<C:=by have:=of_decide_eq_true y; omega
  have f0:Int.toNat ((j:Nat):Int)=j:=by omega
  have hj1:IntKind.wrap .i64 (((j:Nat):Int)+1)=((j+1:Nat):Int):=by rw [wrap64 (by omega) (by omega)]; omega
  obtain ⟨p3,o3,e3,r3⟩:=fam_ld (k:=1) (fun _=>rfl) s1 y
  obtain ⟨p4,o4,e4,r4⟩:=fam_ld (k:=1) (fun _=>rfl) s2 y
  have bj:0<=((j:Nat):Int)/\((j:Nat):Int)<(C:Int):=⟨by omega,by omega⟩
  rw [f0,hj1]
  exact ⟨trivial,bo,p1,o1,e1,_,_,_,r1,bj,p3,o3,e3,_,r3,bo,p2,o2,e2,_,_,_,r2,bj,p4,o4,e4,_,r4,fun q=>absurd rfl (of_decide_eq_true q),fun _=>⟨C-(j+1),by omega,⟨rfl,rfl,rfl,rfl,rfl,rfl,rfl,rfl,rfl,rfl,rfl,rfl⟩,j+1,rfl,y,rfl⟩⟩
 .rw [hi1]
  exact ⟨N-(i+1),by omega,⟨rfl,rfl,rfl,rfl,rfl,rfl,rfl,rfl,rfl,rfl,rfl⟩,i+1,rfl,z,rfl⟩
theorem l3b {N C n n5 n6 c1 c2 d1 d2:Nat} {e:Int->Int->Int} {L:List Clh} {a4 t1 t2 u1 u2:OA} {x7:Int} {H:KH} {Q:PQ} {J:Nat->OA->Nat->Nat->Int->KH->Prop} (hN:N<=1000) (hC:C<=1000) (hL:L.length<=100000) (h1:RwG H t1 N C (intP e C)) (h2:RwG H t2 N C (intP e C)) (k1:kold H 4 u1 L.length=some (clV L)) (k2:kold H 4 u2 L.length=some (clV L)) (hJ:∃ m,m<n/\J m a4 n5 n6 (IntKind.wrap .i64 (x7+1)) H) :
 vc3_L5 a4 n5 n6 x7 t1 N c1 u1 L.length d1 t2 N c2 u2 L.length d2 H Q n J:=by
 unfold vc3_L5
 refine ⟨fun k b4 m5 m6 y7 a8 n9 n10 a11 n12 n13 a14 n15 n16 a17 n18 n19 x20 H21=>(a4=b4/\n5=m5/\n6=m6/\x7=y7/\t1=a8/\N=n9/\c1=n10/\u1=a11/\L.length=n12/\d1=n13/\t2=a14/\N=n15/\c2=n16/\u2=a17/\L.length=n18/\d2=n19/\H=H21)/\∃ i:Nat,x20=i/\i<=L.length/\k=L.length-i,⟨L.length,⟨rfl,rfl,rfl,rfl,rfl,rfl,rfl,rfl,rfl,rfl,rfl,rfl,rfl,rfl,rfl,rfl,rfl⟩,0,rfl,by omega,rfl⟩,?_⟩
 rintro k b4 m5 m6 y7 a8 n9 n10 a11 n12 n13 a14 n15 n16 a17 n18 n19 x20 H21 ⟨⟨rfl,rfl,rfl,rfl,rfl,rfl,rfl,rfl,rfl,rfl,rfl,rfl,rfl,rfl,rfl,rfl,rfl⟩,i,rfl,hi,rfl⟩
 refine ⟨fun z=>?_,fun _=>l3a hN hC h1 h2 hJ⟩
 have z:i<L.length:=by have:=of_decide_eq_true z; omega
 have e0:Int.toNat ((i:Nat):Int)=i:=by omega
 have hi1:IntKind.wrap .i64 (((i:Nat):Int)+1)=((i+1:Nat):Int):=by rw [wrap64 (by omega) (by omega)]; omega
 obtain ⟨p1,o1,e1,r1⟩:=cl_ld k1 z
 obtain ⟨p2,o2,e2,r2⟩:=cl_ld k2 z
 have bo:0<=((i:Nat):Int)/\((i:Nat):Int)<(L.length:Int):=⟨by omega,by omega⟩
 rw [e0,hi1]
 exact ⟨trivial,bo,p1,o1,e1,_,_,_,_,r1,bo,p2,o2,e2,_,_,_,_,r2,fun q=>same4 q,fun _=>⟨L.length-(i+1),by omega,⟨rfl,rfl,rfl,rfl,rfl,rfl,rfl,rfl,rfl,rfl,rfl,rfl,rfl,rfl,rfl,rfl,rfl⟩,i+1,rfl,z,rfl⟩⟩
variable (ok : EnvOk (env Try.prog))
include ok
theorem l3c {g h:Gm} {H:KH} {nm:Nat} (gi:GI H g) (hi:GI H h) (hg:MayG g) (hh:MayG h) (hn:H nm=none) :
 vc3_L7 nm H g.ta g.toks.length g.tc g.na g.nts.length g.nc g.pa g.prods.length g.pc h.ta h.toks.length h.tc h.na h.nts.length h.nc h.pa h.prods.length h.pc fun v _=>v = .bool true:=by
 unfold vc3_L7
 generalize hcs:[Value.slice g.ta g.toks.length g.tc,.slice g.na g.nts.length g.nc,.slice g.pa g.prods.length g.pc,.slice h.ta h.toks.length h.tc,.slice h.na h.nts.length h.nc,.slice h.pa h.prods.length h.pc]=cs
 have l0:Le H (H.new nm (mkEnt cs 0)):=Le.new hn
 have r0:ld (H.new nm (mkEnt cs 0)) ⟨nm,0,none⟩ cs:=⟨rfl,_,new_self,mk_rd⟩
 refine ⟨fun k a4 n5 n6 x7 H8=>(some ⟨nm,0,none⟩=a4/\2=n5/\2=n6)/\∃ i:Nat,x7=i/\i<=2/\k=2-i/\Le (H.new nm (mkEnt cs 0)) H8,⟨2,⟨rfl,rfl,rfl⟩,0,rfl,by omega,rfl,Le.refl _⟩,?_⟩
 rintro k a4 n5 n6 x7 H8 ⟨⟨rfl,rfl,rfl⟩,i,rfl,hi',rfl,l8⟩
 refine ⟨fun z=>?_,fun _=>rfl⟩
 have z:i<2:=by have:=of_decide_eq_true z; omega
 have e0:Int.toNat ((i:Nat):Int)=i:=by omega
 have hi1:IntKind.wrap .i64 (((i:Nat):Int)+1)=((i+1:Nat):Int):=by rw [wrap64 (by omega) (by omega)]; omega
 obtain ⟨x,gx,mx,rx⟩:∃ x:Gm,GI H x/\MayG x/\ld (H.new nm (mkEnt cs 0)) ⟨nm,0+i*3,none⟩ [.slice x.ta x.toks.length x.tc,.slice x.na x.nts.length x.nc,.slice x.pa x.prods.length x.pc]:=by
  subst hcs
  match i,z with
  | 0,_=>exact ⟨g,gi,hg,ldSub (m:=3) r0 0 (by simp)⟩
  | 1,_=>exact ⟨h,hi,hh,ldSub (m:=3) r0 3 (by simp)⟩
 obtain ⟨nl,iN⟩:=exN x.prods
 obtain ⟨fs,iF⟩:=exF x.prods
 obtain ⟨fl,iL⟩:=exL x.prods x.toks.length
 have t1:=mx.t
 have t2:=mx.n
 have hlen:=clA_len (f:=chG x (mX x.prods nl fs fl)) (fun n t=>Nat.le_trans (chK_len _ _ _ _ _) mx.p.2) (x.toks.length+1) x.nts.length
 have hl2:x.nts.length*((x.toks.length+1)*16)<=8*((8+1)*16):=Nat.mul_le_mul (by omega) (Nat.mul_le_mul (by omega) (Nat.le_refl _))
 have bo:0<=((i:Nat):Int)/\((i:Nat):Int)<((2:Nat):Int):=⟨by omega,by omega⟩
 rw [e0]
 refine ⟨bo,nm,0,rfl,_,_,_,_,_,_,_,_,_,l8.ld rx,c11 ok (gx.up (l0.trans l8)) mx iN iF iL fun a c b d H13 l13 hT hC=>⟨_,_,_,_,_,_,rfl,bo,nm,0,rfl,_,_,_,_,_,_,_,_,_,(l8.trans l13).ld rx,c12 ok (gx.up (l0.trans (l8.trans l13))) mx iN iF iL fun a' c' b' d' H32 l32 hT' hC'=>⟨_,_,_,_,_,_,rfl,fun q=>absurd rfl (of_decide_eq_true q),fun _=>⟨fun q=>absurd rfl (of_decide_eq_true q),fun _=>?_⟩⟩⟩⟩
 refine l3b (by omega) (by omega) (by omega) (hT.up (fun h=>intP.up l32 h) l32) hT' (l32.kold hC) hC' ⟨2-(i+1),by omega,⟨rfl,rfl,rfl⟩,i+1,hi1,z,rfl,l8.trans (l13.trans l32)⟩
theorem c3 {a:OA} {n c u:Nat} {H:KH} (hl:∀ i,i<n->∃ b o x,a=some ⟨b,o,none⟩/\ld H ⟨b,o+i,none⟩ [.int .u8 x]/\0<=x/\x<=255) (hu:u<=255):Does (env Try.prog) 3 [.slice a n c,.int .u8 ((u:Nat):Int)] H fun v _=>v = .bool true:=by
 refine fn3 ok (c7 ⟨true,rfl,fun z=>(by cases z),fun _=>⟨fun _=>rfl,fun z=>?_⟩⟩)
 have hn:n<=150:=by have:=of_decide_eq_false z; omega
 have hb:PkB H a n:=⟨hl,hn⟩
 refine c8 ok hb fun p H2 _ h=>⟨p,0,rfl,c9 ok hb h fun g Z' H6 hZ s h1 h2 hg=>⟨_,_,_,_,_,_,_,_,_,rfl,?_⟩⟩
 have gi:=s.gi h1 h2
 clear s h1 h2 h hb z
 refine c10 ok fun h H17 l17 gh hh=>⟨_,_,_,_,_,_,_,_,_,rfl,fun n27 h27=>?_⟩
 exact l3c ok (gi.up l17) gh hg hh h27
end
end Va
end Go.Proofs.Ytibkijpnkmccpaa
namespace Go.Ew
open Go.Ev Go.Deep
theorem isN_mem {G K:List Pr} (h:∀ p,p∈G↔p∈K) {nl:Int->Bool} (i:IsN G nl):IsN K nl:=fun x=>⟨fun q=>((i x).1 q).more fun p hp=>(h p).1 hp,fun q=>(i x).2 (q.more fun p hp=>(h p).2 hp)⟩
theorem isF_mem {G K:List Pr} (h:∀ p,p∈G↔p∈K) {fs:Int->Int->Bool} (i:IsF G fs):IsF K fs:=fun x t=>⟨fun q=>((i x t).1 q).more fun p hp=>(h p).1 hp,fun q=>(i x t).2 (q.more fun p hp=>(h p).2 hp)⟩
theorem isL_mem {G K:List Pr} (h:∀ p,p∈G↔p∈K) {M:Int} {fl:Int->Int->Bool} (i:IsL G M fl):IsL K M fl:=fun x t=>⟨fun q=>((i x t).1 q).more fun p hp=>(h p).1 hp,fun q=>(i x t).2 (q.more fun p hp=>(h p).2 hp)⟩
def plus (g:Gm) (d:Pr) (a:OA) (c:Nat):Gm:=⟨g.ta,g.tc,g.toks,g.na,g.nc,g.nts,a,c,g.prods++[d]⟩
theorem plus_may {g:Gm} {d:Pr} {a:OA} {c:Nat} (hg:MayG g) (hd:ProdOk g.toks g.nts.length d) (hp:g.prods.length<16):MayG (plus g d a c):=⟨hg.t,hg.n,⟨by show 1<=(g.prods++[d]).length; rw [List.length_append]; have:=hg.p; omega,by show (g.prods++[d]).length<=16; rw [List.length_append]; show _+1<=_; omega⟩,hg.nm,hg.at_,app_all (P:=fun _ x=>ProdOk g.toks g.nts.length x) hg.pr hd⟩
theorem clash_any {g:Gm} {k:Nat} (hk:k<g.prods.length) {a:OA} {c:Nat} {nl:Int->Bool} {fs fl:Int->Int->Bool} {N C:Nat} (hN:0<=g.prods[k].left/\g.prods[k].left<N) :
 (clA (chG (plus g g.prods[k] a c) (mX (plus g g.prods[k] a c).prods nl fs fl)) N C).any (fun x=>decide (x.b=(g.prods.length:Int))&&decide (x.nt=g.prods[k].left))=(List.range C).any fun t:Nat=>mB nl fs fl g.prods[k] t:=by
 rw [Bool.eq_iff_iff,List.any_eq_true,List.any_eq_true]
 generalize hh:plus g g.prods[k] a c=h
 have hp:h.prods=g.prods++[g.prods[k]]:=by rw [<- hh]; rfl
 have hl:h.prods.length=g.prods.length+1:=by rw [hp,List.length_append]; rfl
 have l1:g.prods.length<h.prods.length:=by omega
 have l2:k<h.prods.length:=by omega
 have e1:h.prods[g.prods.length]=g.prods[k]:=by simp [hp]
 have e2:h.prods[k]=g.prods[k]:=by simp [hp,hk]
 have m1:∀ t,mX h.prods nl fs fl (g.prods.length:Int) t=mB nl fs fl g.prods[k] t:=fun t=>by rw [mX_at l1,e1]
 have m2:∀ t,mX h.prods nl fs fl (k:Int) t=mB nl fs fl g.prods[k] t:=fun t=>by rw [mX_at l2,e2]
 constructor
 .rintro ⟨x,hx,hx2⟩
  rw [Bool.and_eq_true,decide_eq_true_eq,decide_eq_true_eq] at hx2
  obtain ⟨n,t,hn,ht,hx⟩:=clA_mem.1 hx
  obtain ⟨q1,q2,q3,q4⟩:=cl1_mem.1 hx
  obtain ⟨p,hp',w1,w2,w3⟩:=chG_mem.1 (List.mem_of_mem_tail q4)
  have ep:p=g.prods.length:=by have:=hx2.1; omega
  subst ep
  exact ⟨t,List.mem_range.2 ht,by rw [<- m1]; exact w3⟩
 .rintro ⟨t,ht,hm⟩
  have ht:=List.mem_range.1 ht
  have el:((g.prods[k].left.toNat:Nat):Int)=g.prods[k].left:=by omega
  have i1:(g.prods.length:Int)∈chG h (mX h.prods nl fs fl) g.prods[k].left t:=chG_mem.2 ⟨_,l1,rfl,by rw [e1],by rw [m1]; exact hm⟩
  have i2:(k:Int)∈chG h (mX h.prods nl fs fl) g.prods[k].left t:=chG_mem.2 ⟨_,l2,rfl,by rw [e2],by rw [m2]; exact hm⟩
  have hs:(chG h (mX h.prods nl fs fl) g.prods[k].left t).Pairwise (· < ·):=chK_sorted _ _ _ _ _
  have i3:(g.prods.length:Int)∈(chG h (mX h.prods nl fs fl) g.prods[k].left t).tail:=by
   revert i1 i2 hs
   cases chG h (mX h.prods nl fs fl) g.prods[k].left t with
   | nil=>intro i1; cases i1
   | cons y r =>
     intro i1 i2 hs
     rcases List.mem_cons.1 i1 with e | i1
     .rcases List.mem_cons.1 i2 with e' | i2
      .omega
      .have:=(List.pairwise_cons.1 hs).1 _ i2; omega
     .exact i1
  refine ⟨⟨g.prods[k].left,t,ent (chG h (mX h.prods nl fs fl) g.prods[k].left t),g.prods.length⟩,clA_mem.2 ⟨g.prods[k].left.toNat,t,by omega,ht,?_⟩,by simp⟩
  rw [el]
  exact cl1_mem.2 ⟨rfl,rfl,rfl,i3⟩
end Go.Ew
namespace Go.Proofs.Ytibkijpnkmccpaa
open Go.Ev Go.Ew
namespace Va
section
theorem l4a {a4 a7 a10 a14 a17 b:OA} {n5 n6 n8 n9 n12 n15 n16 n18 n19 d P:Nat} {x13:Int} {an:Bool} {L:List Clh} {H:KH} (hL:L.length<=100000) (k:kold H 4 b L.length=some (clV L)) (e:L.any (fun x=>decide (x.b=(P:Int))&&decide (x.nt=x13))=an) :
 vc4_L2 a4 n5 n6 a7 n8 n9 a10 P n12 x13 a14 n15 n16 a17 n18 n19 an b L.length d H fun v _=>v = .bool true:=by
 unfold vc4_L2
 refine ⟨fun k b4 m5 m6 b7 m8 m9 b10 m11 m12 y13 b14 m15 m16 b17 m18 m19 b20 a21 n22 n23 b24 x25 H26=>(P=m11/\x13=y13/\an=b20/\b=a21/\L.length=n22/\H=H26)/\∃ i:Nat,x25=i/\i<=L.length/\k=L.length-i/\b24=(L.take i).any (fun x=>decide (x.b=(P:Int))&&decide (x.nt=x13)),⟨L.length,⟨rfl,rfl,rfl,rfl,rfl,rfl⟩,0,rfl,by omega,rfl,by simp⟩,?_⟩
 rintro k b4 m5 m6 b7 m8 m9 b10 m11 m12 y13 b14 m15 m16 b17 m18 m19 b20 a21 n22 n23 b24 x25 H26 ⟨⟨rfl,rfl,rfl,rfl,rfl,rfl⟩,i,rfl,hi,rfl,rfl⟩
 refine ⟨fun z=>?_,fun z=>?_⟩
 .have z:i<L.length:=by have:=of_decide_eq_true z; omega
  have e0:Int.toNat ((i:Nat):Int)=i:=by omega
  have hi1:IntKind.wrap .i64 (((i:Nat):Int)+1)=((i+1:Nat):Int):=by rw [wrap64 (by omega) (by omega)]; omega
  obtain ⟨p1,o1,e1,r1⟩:=cl_ld (by assumption) z
  obtain ⟨d0,d1,d2,d3⟩:=ldC r1
  have tk:(L.take (i+1)).any (fun x=>decide (x.b=(P:Int))&&decide (x.nt=x13))=((L.take i).any (fun x=>decide (x.b=(P:Int))&&decide (x.nt=x13))||(decide (L[i].b=(P:Int))&&decide (L[i].nt=x13))):=by rw [take_suc z,List.any_append]; simp
  have bo:0<=((i:Nat):Int)/\((i:Nat):Int)<(L.length:Int):=⟨by omega,by omega⟩
  rw [e0,hi1]
  refine ⟨trivial,fun q=>⟨L.length-(i+1),by omega,⟨rfl,rfl,rfl,rfl,rfl,rfl⟩,i+1,rfl,z,rfl,by rw [tk,q,Bool.true_or]⟩,fun q=>⟨bo,p1,o1,e1,rfl,_,d3,fun w=>⟨bo,p1,o1,e1,rfl,_,d0,L.length-(i+1),by omega,⟨rfl,rfl,rfl,rfl,rfl,rfl⟩,i+1,rfl,z,rfl,by rw [tk,q,w,Bool.false_or,Bool.true_and]⟩,fun w=>⟨L.length-(i+1),by omega,⟨rfl,rfl,rfl,rfl,rfl,rfl⟩,i+1,rfl,z,rfl,by rw [tk,q,w,Bool.false_or,Bool.false_and]⟩⟩⟩
 .have z:i=L.length:=by have:=of_decide_eq_false z; omega
  subst z
  rw [List.take_length,e]
  show Value.bool (an == an) = .bool true
  cases an<;>rfl
variable (ok : EnvOk (env Try.prog))
include ok
theorem l4b {g:Gm} {u k:Nat} {Z0 H:KH} {nb cF cO pc:Nat} {fb ob:Nat->Nat} {aF aO pa:OA} {Y:Int->Int->Bool} (gi:GI H g) (hg:MayG g) (hk:k<g.prods.length) (ek:Int.tmod (IntKind.wrap .i64 ((u:Nat):Int)) (g.prods.length:Int)=((k:Nat):Int)) (hp:g.prods.length<16) (gh:GI H (plus g g.prods[k] pa pc))
 (s:RefS Z0 H g.nts.length g.toks.length nb fb ob aF aO Y) (jN:IsN g.prods (nlY Y)) (jF:IsF g.prods (fsY g.toks.length Y)) (jL:IsL g.prods g.toks.length (flY g.toks.length Y)) :
 vc4_L4 g.ta g.toks.length g.tc g.na g.nts.length g.nc g.pa g.prods.length g.pc ((u:Nat):Int) g.prods[k].left g.prods[k].ra g.prods[k].right.length g.prods[k].rc g.prods[k].ua g.prods[k].un g.prods[k].uc pa (g.prods.length+1) pc (some ⟨nb,0,none⟩) g.nts.length g.nts.length aF g.nts.length cF aO g.nts.length cO H fun v _=>v = .bool true:=by
 have h1:=hg.t
 have h2:=hg.n
 have po:=hg.pr k hk
 have hh:=plus_may (a:=pa) (c:=pc) hg po hp
 have el:g.prods.length+1=(g.prods++[g.prods[k]]).length:=by rw [List.length_append]; rfl
 have mem:∀ p,p∈g.prods↔p∈(plus g g.prods[k] pa pc).prods:=fun p=>⟨fun h=>List.mem_append_left _ h,fun h=>by
  rcases List.mem_append.1 h with h | h
  .exact h
  .rw [List.mem_singleton.1 h]; exact List.getElem_mem hk⟩
 unfold vc4_L4
 rw [ek]
 refine ⟨fun k' a4 n5 n6 a7 n8 n9 a10 n11 n12 x13 x14 a15 n16 n17 a18 n19 n20 a21 n22 n23 a24 n25 n26 a27 n28 n29 a30 n31 n32 a33 n34 n35 a36 n37 n38 b39 x40 H41=>(g.ta=a4/\g.toks.length=n5/\g.tc=n6/\g.na=a7/\g.nts.length=n8/\g.nc=n9/\g.pa=a10/\g.prods.length=n11/\g.pc=n12/\((k:Nat):Int)=x13/\g.prods[k].left=x14/\g.ta=a21/\g.toks.length=n22/\g.tc=n23/\g.na=a24/\g.nts.length=n25/\g.nc=n26/\pa=a27/\g.prods.length+1=n28/\pc=n29/\some ⟨nb,0,none⟩=a30/\g.nts.length=n31/\g.nts.length=n32/\aF=a33/\g.nts.length=n34/\cF=n35/\aO=a36/\g.nts.length=n37/\cO=n38)/\∃ t:Nat,x40=t/\t<=g.toks.length+1/\k'=g.toks.length+1-t/\Le H H41/\b39=(List.range t).any fun j:Nat=>mB (nlY Y) (fsY g.toks.length Y) (flY g.toks.length Y) g.prods[k] j,⟨g.toks.length+1,⟨rfl,rfl,rfl,rfl,rfl,rfl,rfl,rfl,rfl,rfl,rfl,rfl,rfl,rfl,rfl,rfl,rfl,rfl,rfl,rfl,rfl,rfl,rfl,rfl,rfl,rfl,rfl,rfl,rfl⟩,0,rfl,by omega,rfl,Le.refl H,rfl⟩,?_⟩
 rintro k' a4 n5 n6 a7 n8 n9 a10 n11 n12 x13 x14 a15 n16 n17 a18 n19 n20 a21 n22 n23 a24 n25 n26 a27 n28 n29 a30 n31 n32 a33 n34 n35 a36 n37 n38 b39 x40 H41 ⟨⟨rfl,rfl,rfl,rfl,rfl,rfl,rfl,rfl,rfl,rfl,rfl,rfl,rfl,rfl,rfl,rfl,rfl,rfl,rfl,rfl,rfl,rfl,rfl,rfl,rfl,rfl,rfl,rfl,rfl⟩,t,rfl,ht,rfl,lH,hb⟩
 refine ⟨fun z=>?_,fun z=>?_⟩
 .have z:t<=g.toks.length:=by have:=of_decide_eq_true z; omega
  have ht1:IntKind.wrap .i64 (((t:Nat):Int)+1)=((t+1:Nat):Int):=by rw [wrap64 (by omega) (by omega)]; omega
  have rs:((List.range (t+1)).any fun j:Nat=>mB (nlY Y) (fsY g.toks.length Y) (flY g.toks.length Y) g.prods[k] j)=(b39||mB (nlY Y) (fsY g.toks.length Y) (flY g.toks.length Y) g.prods[k] t):=by rw [List.range_succ,List.any_append,hb]; simp
  rw [ht1]
  refine ⟨fun q=>⟨g.toks.length+1-(t+1),by omega,⟨rfl,rfl,rfl,rfl,rfl,rfl,rfl,rfl,rfl,rfl,rfl,rfl,rfl,rfl,rfl,rfl,rfl,rfl,rfl,rfl,rfl,rfl,rfl,rfl,rfl,rfl,rfl,rfl,rfl⟩,t+1,rfl,by omega,rfl,lH,by rw [rs,q,Bool.true_or]⟩,fun q=>?_⟩
  exact c14 ok (gi.up lH) hg (s.up lH) jF hk z fun H3 l3=>⟨_,rfl,g.toks.length+1-(t+1),by omega,⟨rfl,rfl,rfl,rfl,rfl,rfl,rfl,rfl,rfl,rfl,rfl,rfl,rfl,rfl,rfl,rfl,rfl,rfl,rfl,rfl,rfl,rfl,rfl,rfl,rfl,rfl,rfl,rfl,rfl⟩,t+1,rfl,by omega,rfl,lH.trans l3,by rw [rs,q,Bool.false_or]⟩
 .have z:t=g.toks.length+1:=by have:=of_decide_eq_false z; omega
  subst z
  rw [el]
  refine c11 ok (g:=plus g g.prods[k] pa pc) (gh.up lH) hh (isN_mem mem jN) (isF_mem mem jF) (isL_mem mem jL) fun a c b d H17 l17 hT hC=>⟨_,_,_,_,_,_,rfl,?_⟩
  have hlen:=clA_len (f:=chG (plus g g.prods[k] pa pc) (mX (plus g g.prods[k] pa pc).prods (nlY Y) (fsY g.toks.length Y) (flY g.toks.length Y))) (fun n t=>Nat.le_trans (chK_len _ _ _ _ _) hh.p.2) (g.toks.length+1) g.nts.length
  have hl2:g.nts.length*((g.toks.length+1)*16)<=8*((8+1)*16):=Nat.mul_le_mul (by omega) (Nat.mul_le_mul (by omega) (Nat.le_refl _))
  have hlen:(clA (chG (plus g g.prods[k] pa pc) (mX (plus g g.prods[k] pa pc).prods (nlY Y) (fsY g.toks.length Y) (flY g.toks.length Y))) g.nts.length (g.toks.length+1)).length<=100000:=by omega
  exact l4a hlen hC ((clash_any hk po.a).trans hb.symm)
theorem c4 {a:OA} {n c u:Nat} {H:KH} (hl:∀ i,i<n->∃ b o x,a=some ⟨b,o,none⟩/\ld H ⟨b,o+i,none⟩ [.int .u8 x]/\0<=x/\x<=255) (hu:u<=255):Does (env Try.prog) 4 [.slice a n c,.int .u8 ((u:Nat):Int)] H fun v _=>v = .bool true:=by
 refine fn4 ok (c7 ⟨true,rfl,fun z=>(by cases z),fun _=>⟨fun _=>rfl,fun z=>?_⟩⟩)
 have hn:n<=150:=by have:=of_decide_eq_false z; omega
 have hb:PkB H a n:=⟨hl,hn⟩
 refine c8 ok hb fun p H2 _ h=>⟨p,0,rfl,c9 ok hb h fun g Z' H6 hZ s h1 h2 hg=>⟨_,_,_,_,_,_,_,_,_,rfl,?_⟩⟩
 have gi:=s.gi h1 h2
 clear s h1 h2 h hb z
 have t1:=hg.t
 have t2:=hg.n
 have t3:=hg.p
 obtain ⟨k,hk,ek⟩:∃ k,k<g.prods.length/\(Int.tmod (IntKind.wrap .i64 ((u:Nat):Int)) (g.prods.length:Int))=((k:Nat):Int):=by
  refine ⟨u%g.prods.length,Nat.mod_lt _ (by omega),?_⟩
  rw [wrap64 (by omega) (by omega),Int.tmod_eq_emod_of_nonneg (by omega)]
  exact (Int.natCast_emod u g.prods.length).symm
 have e0:Int.toNat ((k:Nat):Int)=k:=by omega
 obtain ⟨b1,o1,ha1,r1⟩:=pr_ld gi.p hk
 have gpi:=gi.pi k hk
 refine ⟨by omega,by rw [ek]; exact ⟨by omega,by omega⟩,b1,o1,ha1,_,_,_,_,_,_,_,by rw [ek,e0]; exact r1,fun _=>rfl,fun z3=>⟨trivial,fun n1 h1 n2 h2 n3 h3=>?_⟩⟩
 have hp16:g.prods.length<16:=by have:=of_decide_eq_false z3; omega
 clear r1
 have ez:lrep [Value.int .i64 0,.slice none 0 0,.slice none 0 0] 0=[]:=rfl
 rw [ez] at h2 h3 ⊢
 generalize hd:[Value.int .i64 g.prods[k].left,.slice g.prods[k].ra g.prods[k].right.length g.prods[k].rc,.slice g.prods[k].ua g.prods[k].un g.prods[k].uc]=dv at *
 have h3':=(Le.new (e:=mkEnt dv 0) h2).none h3
 rw [hide_new h2]
 have o:Own H6 (H6.new n1 (mkEnt [] 0)) 3 (some ⟨n1,0,none⟩) 0 0 []:=.lit n1 0 [] (if_pos rfl) rfl (by decide) h1
 have lp:(prC g.prods).length=g.prods.length*3:=fm_len (k:=3) (fun _=>rfl) _
 obtain ⟨a6,n8,H9,f1,f2,f3,f4,f5⟩:=o.append (ti:=tiP) (nm:=n3) (m:=g.prods.length) (new:=prC g.prods) (Le.new h1) h3' lp (by omega) (by decide) (by decide)
 rw [Nat.zero_add] at f1 f2
 refine ⟨_,_,knew_of (ti:=tiP) ((Le.new h1).kold gi.p),a6,_,n8,H9,f1,fun h9=>⟨⟨rfl,trivial⟩,fun n10 h10=>?_⟩⟩
 rw [back_new] at h10 ⊢
 have l9:=Le.new (e:=mkEnt dv 0) h9
 have f2':Own H6 (H9.new n2 (mkEnt dv 0)) tiP.size a6 g.prods.length n8 (prC g.prods):=Own.mono l9 f2
 obtain ⟨a13,n15,H16,g1,g2,g3,g4,g5⟩:=f2'.append (ti:=tiP) (nm:=n10) (m:=1) (new:=dv) (f3.trans l9) h10 (by rw [<- hd]; rfl) (by omega) (by decide) (by decide)
 refine ⟨1,_,knew_of (ti:=tiP) (lit_kold (if_pos rfl) (by rw [<- hd]; rfl)),a13,_,n15,H16,g1,trivial,trivial,?_⟩
 have kp:=g2.cells
 have ep:prC g.prods++dv=prC (g.prods++[g.prods[k]]):=by rw [<- hd]; exact (List.flatMap_append (xs:=g.prods) (ys:=[g.prods[k]])).symm
 have gi':=gi.up g3
 have gh:GI H16 (plus g g.prods[k] a13 n15):=⟨gi'.t,gi'.n,by
  show kold H16 3 a13 (g.prods++[g.prods[k]]).length=some (prC (g.prods++[g.prods[k]]))
  rw [List.length_append,<- ep]; exact kp,gi'.ni,gi'.pi.appK (g3.kold gpi.1) (gpi.2.up g3)⟩
 refine c13 ok gi' hg fun Z H' nb fb ob aF cF aO cO Y l s jN jF jL=>⟨_,_,_,_,_,_,_,_,_,rfl,?_⟩
 exact l4b ok (gi'.up l) hg hk ek hp16 (gh.up l) s jN jF jL
end
end Va
end Go.Proofs.Ytibkijpnkmccpaa
