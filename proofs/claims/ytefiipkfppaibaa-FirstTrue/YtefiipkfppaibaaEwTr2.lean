import Derived.Test.YtefiipkfppaibaaEwGm1
import Derived.Test.YtefiipkfppaibaaEwGm6
import Derived.Test.YtefiipkfppaibaaEwS4
set_option linter.unusedVariables false
set_option linter.unusedSimpArgs false
namespace Go.Ew
open Go.Ev Go.Deep
def tiLf:TI:=⟨2,24,true,3,0,0,[(0,1),(1,1)],[.int .i64 0,.string ⟨#[]⟩]⟩
def LfIn (M:Nat) (l:List Lf):Prop:=∀ x∈l,0<=x.kind/\x.kind<M
theorem St.up {Z H H':KH} {p n c:Nat} {a:OA} {R:List Rr} (h:St Z H p a n c R) (hl:Le H H'):St Z H' p a n c R:=⟨h.r.step fun k e _ q=>hl k e q,h.e.up fun e q=>hl _ _ q⟩
theorem LfIn.app {M:Nat} {l m:List Lf} (h:LfIn M l) (h':LfIn M m):LfIn M (l++m):=fun x hx=>by
 rcases List.mem_append.1 hx with hx | hx
 .exact h x hx
 .exact h' x hx
def I39 (Z1:KH) (g:Gm) (p n c m:Nat) (a a1:OA) (N c1:Nat) (x8 t:Int) (d:Pr) (k':Nat) (n4:Nat) (n5:Nat) (x6:Int) (a7:OA) (n8:Nat) (n9:Nat) (a10:OA) (n11:Nat) (n12:Nat) (a13:OA) (n14:Nat) (n15:Nat) (a16:OA) (n17:Nat) (n18:Nat) (x19:Int) (x20:Int) (x21:Int) (a22:OA) (n23:Nat) (n24:Nat) (a25:OA) (n26:Nat) (n27:Nat) (a28:OA) (n29:Nat) (n30:Nat) (b31:Bool) (x32:Int) (H33:KH):Prop:=(((p:Nat)=n4)/\((0:Nat)=n5)/\((((m+1:Nat):Int):Int)=x6)/\((g.ta:OA)=a7)/\((g.toks.length:Nat)=n8)/\((g.tc:Nat)=n9)/\((g.na:OA)=a10)/\((g.nts.length:Nat)=n11)/\((g.nc:Nat)=n12)/\((g.pa:OA)=a13)/\((g.prods.length:Nat)=n14)/\((g.pc:Nat)=n15)/\((a1:OA)=a16)/\((N:Nat)=n17)/\((c1:Nat)=n18)/\((x8:Int)=x19)/\((t:Int)=x20)/\((d.left:Int)=x21)/\((d.ra:OA)=a22)/\((d.right.length:Nat)=n23)/\((d.rc:Nat)=n24)/\((d.ua:OA)=a25)/\((d.un:Nat)=n26)/\((d.uc:Nat)=n27))/\∃ u:Nat,∃ ls:List Lf,(x32=u)/\(u<=d.right.length)/\(k'=d.right.length-u)/\(n29=ls.length)/\(LfIn g.toks.length ls)/\(b31=true->ls.length<=59+64*m+u)/\(ls.length<=2000)/\(St Z1 H33 p a n c [⟨2,a28,ls.length,n30,lfC ls⟩])
theorem I39.mk {Z1:KH} {g:Gm} {p n c m:Nat} {a a1:OA} {N c1:Nat} {x8 t:Int} {d:Pr} {k':Nat} {a28:OA} {n29:Nat} {n30:Nat} {b31:Bool} {x32:Int} {H33:KH} (u:Nat) (ls:List Lf) (h0:x32=u) (h1:u<=d.right.length) (h2:k'=d.right.length-u) (h3:n29=ls.length) (h4:LfIn g.toks.length ls) (h5:b31=true->ls.length<=59+64*m+u) (h6:ls.length<=2000) (h7:St Z1 H33 p a n c [⟨2,a28,ls.length,n30,lfC ls⟩]):I39 Z1 g p n c m a a1 N c1 x8 t d k' p 0 (((m+1:Nat):Int)) g.ta g.toks.length g.tc g.na g.nts.length g.nc g.pa g.prods.length g.pc a1 N c1 x8 t d.left d.ra d.right.length d.rc d.ua d.un d.uc a28 n29 n30 b31 x32 H33:=⟨⟨rfl,rfl,rfl,rfl,rfl,rfl,rfl,rfl,rfl,rfl,rfl,rfl,rfl,rfl,rfl,rfl,rfl,rfl,rfl,rfl,rfl,rfl,rfl,rfl⟩,u,ls,h0,h1,h2,h3,h4,h5,h6,h7⟩
end Go.Ew
namespace Go.Proofs.Ytefiipkfppaibaa
open Go.Ev Go.Ew
namespace Va
section
variable (ok : EnvOk (env Try.prog))
include ok
def Der (m:Nat):Prop:=∀ {Z H:KH} {g:Gm} {p n c:Nat} {a:OA} {x:Int} {Q:PQ},PkB Z a n->GI Z g->MayG g->St Z H p a n c []->m<=8->
 (∀ ls a' c' b H',St Z H' p a n c [⟨2,a',ls.length,c',lfC ls⟩]->LfIn g.toks.length ls->ls.length<=64*m->Q (.tuple #[.slice a' ls.length c',.bool b]) H')->
 Does (env Try.prog) 39 [.pointer (some ⟨p,0,none⟩),gv g,.int .i64 x,.int .i64 ((m:Nat):Int)] H Q
omit ok in
theorem l39 {m:Nat} (ih:Der m) {Z1 H:KH} {g:Gm} {p n c c1 N:Nat} {a a1:OA} {x8 t:Int} {d:Pr} {kk:Nat} {Q:PQ} {J:(Nat->(Nat->(Nat->(Int->(OA->(Nat->(Nat->(OA->(Nat->(Nat->(OA->(Nat->(Nat->(OA->(Nat->(Nat->(Int->(Int->(KH->Prop)))))))))))))))))))} (bz:PkB Z1 a n) (gz:GI Z1 g) (hm:MayG g) (hm8:m+1<=8) (pi:kold Z1 2 d.ra d.right.length=some (syC d.right)) (si:SymsIn g.toks.length g.nts.length d.right) (hd5:d.right.length<=5) (s:St Z1 H p a n c [])
 (hq:∀ ls a' c' H',St Z1 H' p a n c [⟨2,a',ls.length,c',lfC ls⟩]->LfIn g.toks.length ls->ls.length<=64*(m+1)->Q (.tuple #[.slice a' ls.length c',.bool true]) H')
 (next:∀ H',St Z1 H' p a n c []->∃ n34,n34<kk/\(none:Option Nat)=none/\J n34 p 0 ((m+1:Nat):Int) g.ta g.toks.length g.tc g.na g.nts.length g.nc g.pa g.prods.length g.pc a1 N c1 x8 (IntKind.wrap .i64 (t+1)) H') :
 vc39_L2 p 0 ((m+1:Nat):Int) g.ta g.toks.length g.tc g.na g.nts.length g.nc g.pa g.prods.length g.pc a1 N c1 x8 t d.left d.ra d.right.length d.rc d.ua d.un d.uc H Q kk J:=by
 unfold vc39_L2
 refine ⟨I39 Z1 g p n c m a a1 N c1 x8 t d,⟨d.right.length,rfl,I39.mk 0 [] rfl (by omega) rfl rfl (fun y hy=>by cases hy) (fun _=>by show 0<=_; omega) (by decide) s.none_⟩,?_⟩
 clear s
 rintro k' n4 n5 x6 a7 n8 n9 a10 n11 n12 a13 n14 n15 a16 n17 n18 x19 x20 x21 a22 n23 n24 a25 n26 n27 a28 n29 n30 b31 x32 H33 ⟨⟨rfl,rfl,rfl,rfl,rfl,rfl,rfl,rfl,rfl,rfl,rfl,rfl,rfl,rfl,rfl,rfl,rfl,rfl,rfl,rfl,rfl,rfl,rfl,rfl⟩,u,ls,rfl,hu,rfl,rfl,hin,hlt,h200,s⟩
 refine ⟨fun z3=>⟨fun z4=>?_,fun z4=>⟨fun z5=>(by rw [z4] at z5; cases z5),fun _=>next _ s.tail⟩⟩,fun z3=>⟨fun z5=>?_,fun _=>next _ s.tail⟩⟩
 .have z3:u<d.right.length:=by have:=of_decide_eq_true z3; omega
  have hl1:=hlt z4
  have eu:Int.toNat ((u:Nat):Int)=u:=by omega
  have hu1:IntKind.wrap .i64 (((u:Nat):Int)+1)=((u+1:Nat):Int):=by rw [wrap64 (by omega) (by omega)]; omega
  obtain ⟨b3,o3,e3,r3⟩:=sy_ld pi z3
  obtain ⟨w0,w1,w2⟩:=si _ (List.getElem_mem z3)
  rw [eu,hu1]
  refine ⟨⟨by omega,by omega⟩,b3,o3,e3,_,_,s.r.le.ld r3,fun y=>?_,fun y=>?_⟩
  .have hpos:=w1 y
   have ep:(((d.right[u]).pos.toNat:Nat):Int)=(d.right[u]).pos:=by omega
   obtain ⟨b4,o4,e4,r4⟩:=tk_ld gz.t (i:=(d.right[u]).pos.toNat) (by omega)
   refine ⟨trivial,⟨by omega,by omega⟩,b4,o4,e4,rfl,_,s.r.le.ld (ldSub (m:=1) r4 1 (by simp)),fun n8 h8 n9 h9=>⟨1,[.int .i64 (d.right[u]).pos,.string (g.toks[(d.right[u]).pos.toNat]).rex],knew_of (ti:=tiLf) (lit_kold (if_pos rfl) rfl),?_⟩⟩
   obtain ⟨a12,c14,H15,f1,f2⟩:=(s.new h8).app (ti:=tiLf) (nm:=n9) (m:=1) (new:=[.int .i64 (d.right[u]).pos,.string (g.toks[(d.right[u]).pos.toNat]).rex]) h9 rfl rfl (by show ls.length+1<=_; omega) (by decide) (by decide)
   refine ⟨a12,_,c14,H15,f1,trivial,d.right.length-(u+1),by omega,rfl,I39.mk (u+1) (ls++[⟨(d.right[u]).pos,(g.toks[(d.right[u]).pos.toNat]).rex⟩]) rfl (by omega) rfl (by rw [List.length_append]; rfl) (hin.app fun y hy=>?_) (fun _=>by rw [List.length_append]; show ls.length+1<=_; omega) (by rw [List.length_append]; show ls.length+1<=_; omega) ?_⟩
   .rw [List.mem_singleton.1 hy]; exact ⟨w0,hpos⟩
   .rw [lfC_app,List.length_append]; exact f2
  .have em:IntKind.wrap .i64 (((m+1:Nat):Int)-1)=((m:Nat):Int):=by rw [wrap64 (by omega) (by omega)]; omega
   rw [em]
   obtain ⟨s1,lz1⟩:=s.enter
   refine ih (bz.up lz1) (gz.up lz1) hm s1 (by omega) fun xs a3 c5 b6 H2' s2 xin xl=>⟨a3,_,c5,b6,rfl,fun n7 h7=>?_⟩
   have s3:=s.leaveR s2
   obtain ⟨a10,c12,H13,f1,f2⟩:=(s3.perm (List.Perm.swap _ _ _)).app (ti:=tiLf) (nm:=n7) (m:=xs.length) (new:=lfC xs) h7 rfl (lfC_len xs) (by show ls.length+xs.length<=_; omega) (by decide) (by decide)
   have f3:St Z1 H13 p a n c [⟨2,a10,(ls++xs).length,c12,lfC (ls++xs)⟩]:=by
    rw [lfC_app,List.length_append]
    exact (f2.perm (List.Perm.swap _ _ _)).tail
   refine ⟨xs.length,lfC xs,knew_of (ti:=tiLf) s2.r.head.row,a10,ls.length+xs.length,c12,H13,f1,fun _=>?_,fun _=>?_⟩
   .refine ⟨d.right.length-(u+1),by omega,rfl,I39.mk (u+1) (ls++xs) rfl (by omega) rfl List.length_append.symm (hin.app xin) (fun q=>?_) (by rw [List.length_append]; omega) f3⟩
    have:=of_decide_eq_true q
    rw [List.length_append]
    omega
   .exact ⟨d.right.length-(u+1),by omega,rfl,I39.mk (u+1) (ls++xs) rfl (by omega) rfl List.length_append.symm (hin.app xin) (fun q=>(by cases q)) (by rw [List.length_append]; omega) f3⟩
 .have:=hlt z5
  exact hq ls a28 n30 H33 s hin (by omega)
theorem c39 (m:Nat):Der m:=by
 induction m with
 | zero =>
   intro Z H g p n c a x Q hb hg hm h hm8 hq
   have nl:∀ H',Le H H'->Q (.tuple #[.slice none 0 0,.bool false]) H':=fun H' l=>hq [] none 0 false H' ((h.up l).none_) (fun y hy=>by cases hy) (by show 0<=_; omega)
   exact fn39 ok (c61 ok (hg.up h.r.le) (by have:=hm.p; omega) fun a1 c1 H2 ni=>⟨a1,_,c1,rfl,fun _=>nl H2 ni.le,fun _=>⟨fun _=>nl H2 ni.le,fun z=>absurd rfl (of_decide_eq_false z)⟩⟩)
 | succ m ih =>
   intro Z H g p n c a x Q hb hg hm h hm8 hq
   have nl:∀ H',St Z H' p a n c []->Q (.tuple #[.slice none 0 0,.bool false]) H':=fun H' l=>hq [] none 0 false H' l.none_ (fun y hy=>by cases hy) (by show 0<=_; omega)
   refine fn39 ok (c61 ok (hg.up h.r.le) (by have:=hm.p; omega) fun a1 c1 H2 ni=>⟨a1,_,c1,rfl,fun _=>nl H2 (h.up ni.le),fun z1=>⟨fun _=>nl H2 (h.up ni.le),fun z2=>?_⟩⟩)
   have hlen:0<(offG g x).length:=by have:=of_decide_eq_false z1; omega
   have hl16:=offP_len (lefts g) x g.prods.length
   have hP:=hm.p
   have h2:=h.up ni.le
   obtain ⟨s1,lz⟩:=h2.enter
   have kl:kold (H2.del p) 1 a1 (offG g x).length=some (inC (offG g x)):=(ni.g.agree fun k e hk he=>del_at he fun z=>by
    have:=ni.fr k hk
    obtain ⟨e',x',h1,_⟩:=h.e.ex
    rw [z,h1] at this; cases this).row
   have hoff:∀ v∈offG g x,∃ i:Nat,v=i/\i<g.prods.length:=fun v hv=>by
    obtain ⟨i,h1,h2,_⟩:=offP_mem hv
    exact ⟨i,h1,h2⟩
   have hll:(offG g x).length<=g.prods.length:=hl16
   clear ni hl16 z1 z2
   generalize offG g x=L at *
   refine c24 ok (m:=L.length) (hb.up lz) s1 hlen fun x8 H7 x80 x81 s=>⟨x8,rfl,?_⟩
   have gz:=hg.up lz
   have bz:=hb.up lz
   have fin:∀ {H'':KH} {R:List Rr},St (H2.del p) H'' p a n c R->St Z H'' p a n c R:=fun s=>by
    have:=h2.leaveR s
    rw [List.append_nil] at this; exact this
   clear s1 nl
   generalize H2.del p=Z1 at *
   unfold vc39_L4
   refine ⟨fun k n4 n5 x6 a7 n8 n9 a10 n11 n12 a13 n14 n15 a16 n17 n18 x19 x20 H21=>(p=n4/\0=n5/\((m+1:Nat):Int)=x6/\g.ta=a7/\g.toks.length=n8/\g.tc=n9/\g.na=a10/\g.nts.length=n11/\g.nc=n12/\g.pa=a13/\g.prods.length=n14/\g.pc=n15/\a1=a16/\L.length=n17/\c1=n18/\x8=x19)/\∃ t:Nat,x20=t/\t<=L.length/\k=L.length-t/\St Z1 H21 p a n c [],⟨L.length,rfl,⟨rfl,rfl,rfl,rfl,rfl,rfl,rfl,rfl,rfl,rfl,rfl,rfl,rfl,rfl,rfl,rfl⟩,0,rfl,by omega,rfl,s⟩,?_⟩
   clear s
   rintro k n4 n5 x6 a7 n8 n9 a10 n11 n12 a13 n14 n15 a16 n17 n18 x19 x20 H21 ⟨⟨rfl,rfl,rfl,rfl,rfl,rfl,rfl,rfl,rfl,rfl,rfl,rfl,rfl,rfl,rfl,rfl⟩,t,rfl,ht,rfl,s⟩
   refine ⟨fun z=>?_,fun z=>hq [] none 0 false H21 (fin s).none_ (fun y hy=>by cases hy) (by show 0<=_; omega)⟩
   have z:t<L.length:=by have:=of_decide_eq_true z; omega
   have ht1:IntKind.wrap .i64 (((t:Nat):Int)+1)=((t+1:Nat):Int):=by rw [wrap64 (by omega) (by omega)]; omega
   obtain ⟨j,hj,ej⟩:∃ j:Nat,j<L.length/\Int.tmod (IntKind.wrap .i64 (x8+(t:Int))) (L.length:Int)=(j:Int):=by
    refine ⟨((x8+(t:Int)).toNat%L.length),Nat.mod_lt _ (by omega),?_⟩
    rw [wrap64 (by omega) (by omega),Int.tmod_eq_emod_of_nonneg (by omega)]
    rw [Int.natCast_emod,show (((x8+(t:Int)).toNat:Nat):Int)=x8+t by omega]
   rw [ej]
   have ej0:Int.toNat ((j:Nat):Int)=j:=by omega
   obtain ⟨b1,o1,e1,r1⟩:=in_ld kl hj
   obtain ⟨i,ei,hi⟩:=hoff L[j] (List.getElem_mem hj)
   rw [ei] at r1
   have ei0:Int.toNat ((i:Nat):Int)=i:=by omega
   obtain ⟨b2,o2,e2,r2⟩:=pr_ld gz.p hi
   have pi:=(gz.pi i hi).1
   have po:=hm.pr i hi
   have si:=SymsIn.of hm hi
   rw [ej0]
   refine ⟨trivial,by omega,⟨by omega,by omega⟩,b1,o1,e1,_,s.r.le.ld r1,⟨by omega,by omega⟩,b2,o2,e2,?_⟩
   rw [ei0]
   refine ⟨_,_,_,_,_,_,_,s.r.le.ld r2,trivial,?_⟩
   generalize g.prods[i]=d at *
   have hd5:=po.b
   exact l39 ih bz gz hm hm8 pi si hd5 s (fun ls a' c' H' s hin hl=>hq ls a' c' true H' (fin s) hin hl) fun H' s=>⟨L.length-(t+1),by omega,rfl,⟨rfl,rfl,rfl,rfl,rfl,rfl,rfl,rfl,rfl,rfl,rfl,rfl,rfl,rfl,rfl,rfl⟩,t+1,ht1,by omega,rfl,s⟩
end
end Va
end Go.Proofs.Ytefiipkfppaibaa
namespace Go.Ew
open Go.Ev Go.Deep
theorem kold_take {H:KH} {sz n m:Nat} {a:OA} {cs:List Value} (h:kold H sz a n=some cs) (hm:m<=n):kold H sz a m=some (cs.take (m*sz)):=by
 cases a with
 | none =>
   unfold kold at h ⊢
   cases hb:Nat.beq n 0 with
   | false=>simp only [hb,cond_false] at h; cases h
   | true =>
     simp only [hb,cond_true] at h
     have hn:=Nat.eq_of_beq_eq_true hb
     have hm0:m=0:=by omega
     cases h
     subst hm0
     simp [Nat.zero_mul]
 | some a =>
   obtain ⟨b,o,s⟩:=a
   cases s with
   | some s =>
     unfold kold at h ⊢
     cases hb:Nat.beq n 0 with
     | false=>simp only [hb,cond_false] at h; cases h
     | true =>
       simp only [hb,cond_true] at h
       have hn:=Nat.eq_of_beq_eq_true hb
       have hm0:m=0:=by omega
       cases h
       subst hm0
       simp [Nat.zero_mul]
   | none =>
     obtain ⟨e,h1,h2⟩:=kold_some.1 h
     have hl:m*sz<=n*sz:=Nat.mul_le_mul_right _ hm
     have hl2:cs.length=n*sz:=kold_len h
     exact kold_some.2 ⟨e,h1,rd_take h2 (m:=m*sz) (by omega)⟩
theorem Own.cut {H0 H:KH} {sz n c m:Nat} {a:OA} {cs:List Value} (h:Own H0 H sz a n c cs) (hm:m<=n) (hz:1<=sz):∃ c',kslice H sz a n c none (some (.int .i64 (m:Int)))=some (.slice a m c')/\kold H sz a m=some (cs.take (m*sz)):=by
 have hk:=kold_take h.cells hm
 have hn:natOf n (some (.int .i64 (m:Int)))=some m:=by simp [natOf]
 have hz0:natOf 0 none=some 0:=rfl
 have ho:=h.ok hz
 cases h with
 | nil =>
   have hm0:m=0:=by omega
   subst hm0
   exact ⟨0,rfl,hk⟩
 | lit b _ _ h1 h2 h3 h4 =>
   refine ⟨n,?_,hk⟩
   have hs:(⟨b,0,none⟩:Addr).spot.isNone=true:=rfl
   have hlt:Nat.blt n unkU=true:=Nat.ble_eq_true_of_le h3
   have hc:kcap H ⟨b,0,none⟩ n sz=some n:=by unfold kcap; rw [hlt]; rfl
   have hb:(Nat.ble 0 m&&Nat.ble m n&&Nat.ble n n&&true)=true:=by
    simp only [Bool.and_eq_true]
    exact ⟨⟨⟨Nat.ble_eq_true_of_le (Nat.zero_le _),Nat.ble_eq_true_of_le hm⟩,Nat.ble_eq_true_of_le (Nat.le_refl _)⟩,trivial⟩
   unfold kslice
   simp only [hn,hz0,hc,hb,hs,cond_true,hlt,Nat.zero_mul,Nat.add_zero,Nat.sub_zero]
   cases hq:Nat.beq n 0<;>rfl
 | grown b _ _ e h1 h2 h3 h4 h5 h6 =>
   refine ⟨unkU,?_,hk⟩
   have hs:(⟨b,0,none⟩:Addr).spot.isNone=true:=rfl
   have hb0:Nat.blt unkU unkU=false:=by
    cases hb:Nat.blt unkU unkU with
    | false=>rfl
    | true=>have:=Nat.le_of_ble_eq_true hb; omega
   rcases ho with ⟨_,cl,hcl,hle⟩ | ⟨z,_⟩
   case inr=>exact absurd rfl z
   have hb:(Nat.ble 0 m&&Nat.ble m cl&&Nat.ble n cl&&true)=true:=by
    simp only [Bool.and_eq_true]
    exact ⟨⟨⟨Nat.ble_eq_true_of_le (Nat.zero_le _),Nat.ble_eq_true_of_le (by omega)⟩,Nat.ble_eq_true_of_le hle⟩,trivial⟩
   unfold kslice
   simp only [hn,hz0,hcl,hb,hs,cond_true,hb0,cond_false,Nat.zero_mul,Nat.add_zero,Nat.sub_zero]
   cases hq:Nat.blt 0 cl<;>rfl
theorem lfC_take (ls:List Lf) (m:Nat):(lfC ls).take (m*2)=lfC (ls.take m):=(fm_cut (k:=2) (fun _=>rfl) ls m).2
theorem lfC_drop (ls:List Lf) (m:Nat):(lfC ls).drop (m*2)=lfC (ls.drop m):=(fm_cut (k:=2) (fun _=>rfl) ls m).1
theorem LfIn.take {M:Nat} {l:List Lf} (h:LfIn M l) (m:Nat):LfIn M (l.take m):=fun x hx=>h x (List.mem_of_mem_take hx)
theorem LfIn.drop {M:Nat} {l:List Lf} (h:LfIn M l) (m:Nat):LfIn M (l.drop m):=fun x hx=>h x (List.mem_of_mem_drop hx)
theorem fin20 {M:Nat} {H:KH} {a:OA} {c:Nat} {ls:List Lf} {Q:PQ} (row:kold H 2 a ls.length=some (lfC ls)) (cut:40<=ls.length->∃ c',kslice H 2 a ls.length c none (some (.int .i64 40))=some (.slice a 40 c')/\kold H 2 a 40=some ((lfC ls).take (40*2))) (hin:LfIn M ls)
 (hq:∀ (ls:List Lf) a' c',kold H 2 a' ls.length=some (lfC ls)->LfIn M ls->ls.length<=40->Q (.slice a' ls.length c') H) :
 (decide ((40:Int)<((ls.length:Nat):Int))=true->∃ a31:OA,∃ n32 n33:Nat,kslice H 2 a ls.length c none (some (.int .i64 40))=some (.slice a31 n32 n33)/\Q (.slice a31 n32 n33) H)/\(decide ((40:Int)<((ls.length:Nat):Int))=false->Q (.slice a ls.length c) H):=by
 refine ⟨fun z=>?_,fun z=>hq ls a c row hin (by have:=of_decide_eq_false z; omega)⟩
 have z:40<ls.length:=by have:=of_decide_eq_true z; omega
 obtain ⟨c',h1,h2⟩:=cut (by omega)
 have e:(ls.take 40).length=40:=by rw [List.length_take]; omega
 have:=hq (ls.take 40) a c' (by rw [e,h2,lfC_take]) (hin.take 40) (by omega)
 rw [e] at this
 exact ⟨a,40,c',h1,this⟩
end Go.Ew
namespace Go.Proofs.Ytefiipkfppaibaa
open Go.Ev Go.Ew
namespace Va
section
variable (ok : EnvOk (env Try.prog))
include ok
theorem l20 {M:Nat} {Z H:KH} {p n c c':Nat} {a a':OA} {ls:List Lf} {Q:PQ} (bz:PkB Z a n) (s:St Z H p a n c [⟨2,a',ls.length,c',lfC ls⟩]) (hin:LfIn M ls) (hl:ls.length<=600)
 (hq:∀ (ls:List Lf) a' c' H',St Z H' p a n c []->kold H' 2 a' ls.length=some (lfC ls)->LfIn M ls->ls.length<=40->Q (.slice a' ls.length c') H') :
 vc20_J1 p 0 H ls.length a' c' Q:=by
 unfold vc20_J1
 refine c24 ok (m:=5) bz s (by decide) fun x H2 x0 x5 s=>?_
 have fin:∀ {H':KH},St Z H' p a n c [⟨2,a',ls.length,c',lfC ls⟩]->(decide ((40:Int)<((ls.length:Nat):Int))=true->∃ a31:OA,∃ n32 n33:Nat,kslice H' 2 a' ls.length c' none (some (.int .i64 40))=some (.slice a31 n32 n33)/\Q (.slice a31 n32 n33) H')/\(decide ((40:Int)<((ls.length:Nat):Int))=false->Q (.slice a' ls.length c') H'):=fun {H'} s =>
  fin20 s.r.head.row (fun h=>⟨c',(s.r.head.cut (m:=40) h (by show 1<=2; decide)).1,(s.r.head.cut (m:=40) h (by show 1<=2; decide)).2.row⟩) hin fun ls a' c' r i l=>hq ls a' c' _ s.tail r i l
 refine ⟨x,rfl,fun z=>⟨fun z2=>?_,fun z2=>fin s⟩,fun z=>fin s⟩
 have z2:0<ls.length:=by have:=of_decide_eq_true z2; omega
 refine c24 ok (m:=ls.length) bz s z2 fun k H5 k0 k1 s=>⟨k,rfl,trivial,fun n7 h7=>?_⟩
 obtain ⟨k,rfl⟩:=Int.eq_ofNat_of_zero_le k0
 have ek:IntKind.wrap .i64 (((k:Nat):Int)+1)=((k+1:Nat):Int):=by rw [wrap64 (by omega) (by omega)]; omega
 rw [ek]
 have g:=s.r.head
 obtain ⟨c1,c2⟩:=g.cut (m:=k) (by show k<=ls.length; omega) (by show 1<=2; decide)
 obtain ⟨a11,c11,d1,d2⟩:=g.cutAt (m:=k+1) (by show k+1<=ls.length; omega) (by show 1<=2; decide)
 have c2:=c2.row
 have c2:kold H5 2 a' k=some (lfC (ls.take k)):=by rw [<- lfC_take]; exact c2
 have d2:kold H5 2 a11 (ls.length-(k+1))=some (lfC (ls.drop (k+1))):=by rw [<- lfC_drop]; exact d2
 have l7:Le H5 (H5.new n7 (mkEnt (lrep [.int .i64 0,.string (ByteArray.mk #[])] 0) 0)):=Le.new h7
 have o:Own H5 (H5.new n7 (mkEnt (lrep [.int .i64 0,.string (ByteArray.mk #[])] 0) 0)) 2 (some ⟨n7,0,none⟩) 0 0 []:=Own.of_lit h7 rfl (by decide)
 refine ⟨a',k,c',l7.kslice c1,a11,ls.length-(k+1),c11,l7.kslice d1,fun n14 h14=>⟨k,lfC (ls.take k),knew_of (ti:=tiLf) (l7.kold c2),?_⟩⟩
 have et:(ls.take k).length=k:=by rw [List.length_take]; omega
 have ed:(ls.drop (k+1)).length=ls.length-(k+1):=List.length_drop
 obtain ⟨a17,c19,H20,f1,o2,l2,f4,f5⟩:=o.append (ti:=tiLf) (nm:=n14) (m:=k) (new:=lfC (ls.take k)) l7 h14 (by rw [lfC_len,et]; rfl) (by omega) (by decide) (by decide)
 refine ⟨a17,0+k,c19,H20,f1,⟨rfl,rfl,rfl,⟨a11,_,c11,l2.kslice d1,rfl⟩,trivial⟩,fun n24 h24=>⟨ls.length-(k+1),lfC (ls.drop (k+1)),knew_of (ti:=tiLf) (l2.kold d2),?_⟩⟩
 obtain ⟨a27,c29,H30,g1,o3,l3,g4,g5⟩:=o2.append (ti:=tiLf) (nm:=n24) (m:=ls.length-(k+1)) (new:=lfC (ls.drop (k+1))) l2 h24 (by rw [lfC_len,ed]; rfl) (by omega) (by decide) (by decide)
 have hN:0+k+(ls.length-(k+1))=(ls.take k++ls.drop (k+1)).length:=by rw [List.length_append,et,ed]; omega
 rw [hN] at g1 o3
 have o3:Own H5 H30 2 a27 (ls.take k++ls.drop (k+1)).length c29 (lfC (ls.take k++ls.drop (k+1))):=by rw [lfC_app]; exact o3
 exact ⟨a27,_,c29,H30,g1,trivial,fin20 o3.cells (fun h=>o3.cut (m:=40) h (by decide)) ((hin.take k).app (hin.drop (k+1))) fun ls a' c' r i l=>hq ls a' c' _ (s.up l3).tail r i l⟩
theorem c20 {Z H:KH} {g:Gm} {p n c:Nat} {a:OA} {Q:PQ} (bz:PkB Z a n) (gz:GI Z g) (hm:MayG g) (s:St Z H p a n c [])
 (hq:∀ (ls:List Lf) a' c' H',St Z H' p a n c []->kold H' 2 a' ls.length=some (lfC ls)->LfIn g.toks.length ls->ls.length<=40->Q (.slice a' ls.length c') H') :
 Does (env Try.prog) 20 [.pointer (some ⟨p,0,none⟩),gv g] H Q:=by
 refine fn20 ok (c39 ok 8 bz gz hm s (by decide) fun ls a3 c5 b H2 s hin hl=>⟨a3,_,c5,b,rfl,?_⟩)
 have lp:∀ {v:Int} {H':KH},0<=v->v<4->St Z H' p a n c [⟨2,a3,ls.length,c5,lfC ls⟩]->vc20_L2 p 0 g.ta g.toks.length g.tc g.na g.nts.length g.nc g.pa g.prods.length g.pc a3 ls.length c5 v H' Q:=fun {v H'} v0 v4 s=>by
  obtain ⟨v,rfl⟩:=Int.eq_ofNat_of_zero_le v0
  unfold vc20_L2
  refine ⟨fun k n4 n5 a6 n7 n8 a9 n10 n11 a12 n13 n14 a15 n16 n17 x18 H19=>(p=n4/\0=n5/\g.ta=a6/\g.toks.length=n7/\g.tc=n8/\g.na=a9/\g.nts.length=n10/\g.nc=n11/\g.pa=a12/\g.prods.length=n13/\g.pc=n14)/\∃ ls:List Lf,n16=ls.length/\x18=(k:Nat)/\ls.length+k<=520/\LfIn g.toks.length ls/\St Z H19 p a n c [⟨2,a15,ls.length,n17,lfC ls⟩],⟨v,rfl,⟨rfl,rfl,rfl,rfl,rfl,rfl,rfl,rfl,rfl,rfl,rfl⟩,ls,rfl,rfl,by omega,hin,s⟩,?_⟩
  clear s hin hl
  rintro k n4 n5 a6 n7 n8 a9 n10 n11 a12 n13 n14 a15 n16 n17 x18 H19 ⟨⟨rfl,rfl,rfl,rfl,rfl,rfl,rfl,rfl,rfl,rfl,rfl⟩,ls,rfl,rfl,hl,hin,s⟩
  refine ⟨fun z=>?_,fun z=>l20 ok bz s hin (by omega) hq⟩
  have z:0<k:=by have:=of_decide_eq_true z; omega
  have e1:IntKind.wrap .i64 (((k:Nat):Int)-1)=((k-1:Nat):Int):=by rw [wrap64 (by omega) (by omega)]; omega
  rw [e1]
  have ht:=hm.t
  refine c24 ok (m:=g.toks.length) bz s (by omega) fun x H2 x0 x1 s=>?_
  obtain ⟨x,rfl⟩:=Int.eq_ofNat_of_zero_le x0
  have x1:x<g.toks.length:=by omega
  obtain ⟨b4,o4,e4,r4⟩:=tk_ld gz.t x1
  refine ⟨_,rfl,⟨x0,by omega⟩,b4,o4,e4,rfl,(g.toks[x]).rex,s.r.le.ld (ldSub (m:=1) r4 1 (by simp)),fun n8 h8 n9 h9=>⟨1,[.int .i64 (x:Nat),.string (g.toks[x]).rex],knew_of (ti:=tiLf) (lit_kold (if_pos rfl) rfl),?_⟩⟩
  obtain ⟨a12,c14,H15,f1,f2⟩:=(s.new h8).app (ti:=tiLf) (nm:=n9) (m:=1) (new:=[.int .i64 (x:Nat),.string (g.toks[x]).rex]) h9 rfl rfl (by show ls.length+1<=_; omega) (by decide) (by decide)
  refine ⟨a12,_,c14,H15,f1,k-1,by omega,rfl,⟨rfl,rfl,rfl,rfl,rfl,rfl,rfl,rfl,rfl,rfl,rfl⟩,ls++[⟨(x:Nat),(g.toks[x]).rex⟩],by rw [List.length_append]; rfl,rfl,by rw [List.length_append]; show ls.length+1+_<=_; omega,hin.app fun y hy=>?_,?_⟩
  .rw [List.mem_singleton.1 hy]; exact ⟨x0,by show ((x:Nat):Int)<_; omega⟩
  .rw [lfC_app,List.length_append]; exact f2
 refine ⟨fun z=>?_,fun z=>?_⟩
 .exact c24 ok (m:=4) bz s (by decide) fun x H x0 x4 s=>⟨x,rfl,lp x0 x4 s⟩
 .exact c24 ok (m:=4) bz s (by decide) fun x H x0 x4 s=>⟨x,rfl,fun z=>c24 ok (m:=4) bz s (by decide) fun x H x0 x4 s=>⟨x,rfl,lp x0 x4 s⟩,fun z=>l20 ok bz s hin (by omega) hq⟩
end
end Va
end Go.Proofs.Ytefiipkfppaibaa
namespace Go.Ew
open Go.Ev Go.Deep
def ClsAt (nl:Int->Bool) (fs X:Int->Int->Bool) (p:Pr) (i:Nat):Prop:=∀ m (h:m<p.right.length),m<i->p.right[m].tok=false->∀ t,((ofK nl fs (p.right.drop (m+1))).1 t||((ofK nl fs (p.right.drop (m+1))).2&&X p.left t))=true->X p.right[m].pos t=true
theorem ClsAt.all {nl:Int->Bool} {fs X:Int->Int->Bool} {p:Pr} (h:ClsAt nl fs X p p.right.length):ClsP nl fs X p:=fun u s v hr hs t ht=>by
 have hlt:u.length<p.right.length:=by rw [hr]; simp
 have e1:p.right[u.length]=s:=by simp [hr]
 have e2:p.right.drop (u.length+1)=v:=by rw [hr]; simp
 have:=h u.length hlt hlt (by rw [e1]; exact hs) t (by rw [e2]; exact ht)
 rw [e1] at this; exact this
theorem parts_at {l:List Sy} {i:Nat} (h:i<l.length):l=l.take i++l[i] :: l.drop (i+1):=by
 rw [<- List.drop_eq_getElem_cons h,List.take_append_drop]
structure Hd where
 a:OA
 c:Nat
def hdC (M:Nat) (l:List Hd):List Value:=l.flatMap fun x=>[.slice x.a M x.c]
theorem hdC_app (M:Nat) (l m:List Hd):hdC M (l++m)=hdC M l++hdC M m:=List.flatMap_append
structure RowsB (H:KH) (a:OA) (N M:Nat) (X:Int->Int->Bool):Prop where
 ex:∃ l:List Hd,l.length=N/\kold H 1 a N=some (hdC M l)/\∀ i (h:i<l.length),kold H 1 l[i].a M=some (famC (bit1 (X (i:Int))) M)
theorem RowsB.up {H H':KH} {a:OA} {N M:Nat} {X:Int->Int->Bool} (h:RowsB H a N M X) (hl:Le H H'):RowsB H' a N M X:=by
 obtain ⟨l,h1,h2,h3⟩:=h.ex
 exact ⟨l,h1,hl.kold h2,fun i hi=>hl.kold (h3 i hi)⟩
theorem cut9 (f:Int->Bool) {M:Nat} (h:M<=9):(kC f).take M=famC (bit1 f) M:=by
 match M,h with
 | 0,_=>rfl
 | 1,_=>rfl
 | 2,_=>rfl
 | 3,_=>rfl
 | 4,_=>rfl
 | 5,_=>rfl
 | 6,_=>rfl
 | 7,_=>rfl
 | 8,_=>rfl
 | 9,_=>rfl
 | n+10,h=>omega
theorem Bx9.cut {Z H:KH} {b:Nat} {f:Int->Bool} (w:Bx9 Z H b f) {M:Nat} (h:M<=9):kold H 1 (some ⟨b,0,none⟩) M=some (famC (bit1 f) M):=by
 obtain ⟨e,h1,h2,h3⟩:=w.ok () trivial
 refine kold_some.2 ⟨e,h1,?_⟩
 have:=rd_take h3 (m:=M) (by rw [kC_len]; exact h)
 rw [cut9 f h] at this
 rw [Nat.mul_one]
 exact this
def offB (a:OA) (H:KH):KH:=match blk a with
 | none=>H
 | some b=>H.del b
theorem offB_le (a:OA) (H:KH):Le (offB a H) H:=by
 unfold offB
 split
 .exact Le.refl H
 .exact del_le H _
theorem le_offB {Z H:KH} {a:OA} (h:Le Z H) (hn:∀ b,blk a=some b->Z b=none):Le Z (offB a H):=by
 unfold offB
 split
 .exact h
 .rename_i b e
  exact le_del h (hn b e)
theorem offB_none {a:OA} {H:KH} {b:Nat} (h:blk a=some b):offB a H b=none:=by
 unfold offB
 rw [h]
 exact if_pos rfl
theorem offB_kold {a a2:OA} {H:KH} {sz n:Nat} {cs:List Value} (h:kold H sz a2 n=some cs) (hn:∀ b,blk a2=some b->blk a≠some b):kold (offB a H) sz a2 n=some cs:=by
 cases a2 with
 | none=>exact h
 | some ad =>
   cases hs:ad.spot with
   | some s =>
     unfold Ew.kold at h ⊢
     simp only [hs] at h ⊢
     exact h
   | none =>
     obtain ⟨b,o,sp⟩:=ad
     simp only at hs
     subst hs
     obtain ⟨e,h1,h2⟩:=kold_some.1 h
     refine kold_some.2 ⟨e,?_,h2⟩
     have:blk a≠some b:=hn b rfl
     unfold offB
     cases hb:blk a with
     | none=>exact h1
     | some b'=>exact del_at h1 fun z=>this (by rw [hb,z])
end Go.Ew
namespace Go.Proofs.Ytefiipkfppaibaa
open Go.Ev Go.Ew
namespace Va
section
variable (ok : EnvOk (env Try.prog))
include ok
theorem c58 {Z H:KH} {p b:Nat} {g:Gm} {na fa:OA} {nc fc:Nat} {nl:Int->Bool} {fs X0 X:Int->Int->Bool} {c:Bool} {j:Nat} {Q:PQ} (w:Gw Z H p b g.nts.length (rowK X) c) (hg:GI Z g) (hm:MayG g) (hn:kold Z 1 na g.nts.length=some (famC (bit1 nl) g.nts.length)) (hN:IsN g.prods nl) (hf:kold Z 9 fa g.nts.length=some (famC (rowK fs) g.nts.length)) (hI:InN g.nts.length fs 9) (hF:IsF g.prods fs) (hj:j<g.prods.length)
 (hX:InN g.nts.length X 9) (hS:SndL g.prods g.toks.length X) (hst:Stp X0 X c)
 (hq:∀ H' X' c',Gw Z H' p b g.nts.length (rowK X') c'->InN g.nts.length X' 9->SndL g.prods g.toks.length X'->Stp X0 X' c'->(c'=false->c=false/\ClsP nl fs X0 g.prods[j])->Q (.tuple #[]) H') :
 Does (env Try.prog) 58 [.agg #[.int .i64 g.prods[j].left,.slice g.prods[j].ra g.prods[j].right.length g.prods[j].rc,.slice g.prods[j].ua g.prods[j].un g.prods[j].uc],.agg #[.int .i64 g.toks.length,.slice na g.nts.length nc,.slice fa g.nts.length fc],.pointer (some ⟨p,0,none⟩)] H Q:=by
 generalize hx:g.prods[j]=x at *
 have hpo:=hm.pr j hj
 have hri:=hg.pi j hj
 have hsy:=SymsIn.of hm hj
 have hmem:x∈g.prods:=hx ▸ List.getElem_mem hj
 rw [hx] at hpo hri hsy
 refine fn58 ok ?_
 show vc58_L3 _ _ _ _ _ _ _ _ _ _ _ _ _ _ _ _ _ _
 unfold vc58_L3
 refine ⟨fun k n4 n5 x6 a7 n8 n9 a10 n11 n12 x13 a14 n15 n16 a17 n18 n19 a20 n21 n22 x23 x24 H25=>n4=p/\n5=0/\x6=x.left/\a7=x.ra/\n8=x.right.length/\n9=x.rc/\x13=g.toks.length/\a14=na/\n15=g.nts.length/\n16=nc/\a17=fa/\n18=g.nts.length/\n19=fc/\a20=x.ra/\n21=x.right.length/\x23=x.right.length/\∃ (i:Nat) (Y:Int->Int->Bool) (d:Bool),x24=i/\i<=x.right.length/\k=x.right.length-i/\Gw Z H25 p b g.nts.length (rowK Y) d/\InN g.nts.length Y 9/\SndL g.prods g.toks.length Y/\Stp X0 Y d/\(d=false->c=false/\ClsAt nl fs X0 x i),⟨x.right.length,rfl,rfl,rfl,rfl,rfl,rfl,rfl,rfl,rfl,rfl,rfl,rfl,rfl,rfl,rfl,rfl,rfl,0,X,c,rfl,by omega,rfl,w,hX,hS,hst,fun q=>⟨q,fun m _ y=>absurd y (by omega)⟩⟩,?_⟩
 rintro k n4 n5 x6 a7 n8 n9 a10 n11 n12 x13 a14 n15 n16 a17 n18 n19 a20 n21 n22 x23 x24 H25 ⟨rfl,rfl,rfl,rfl,rfl,rfl,rfl,rfl,rfl,rfl,rfl,rfl,rfl,rfl,rfl,rfl,i,Y,d,rfl,hi,rfl,w,hY,hS,hst,hc⟩
 refine ⟨fun z=>?_,fun z=>?_⟩
 .have z:i<x.right.length:=by have:=of_decide_eq_true z; omega
  have e0:Int.toNat ((i:Nat):Int)=i:=by omega
  have hi1:IntKind.wrap .i64 (((i:Nat):Int)+1)=((i+1:Nat):Int):=by have:=hpo.b; rw [wrap64 (by omega) (by omega)]; omega
  obtain ⟨b0,o0,ha,r0⟩:=sy_ld (w.le.kold hri.1) z
  obtain ⟨s0,s1,s2⟩:=hsy _ (List.getElem_mem z)
  rw [e0,hi1]
  refine ⟨⟨by omega,by omega⟩,b0,o0,ha,_,_,r0,fun y=>?_,fun y=>?_⟩
  .refine ⟨x.right.length-(i+1),by omega,rfl,rfl,rfl,rfl,rfl,rfl,rfl,rfl,rfl,rfl,rfl,rfl,rfl,rfl,rfl,rfl,rfl,i+1,Y,d,rfl,by omega,rfl,w,hY,hS,hst,fun q=>⟨(hc q).1,fun m hm' ym yt=>?_⟩⟩
   by_cases e:m=i
   .subst e; rw [y] at yt; cases yt
   .exact (hc q).2 m hm' (by omega) yt
  .have hp:=s2 y
   obtain ⟨a',c',k1,k2⟩:=(hri.2.up w.le).cut (i+1) (by omega)
   have hdl:x.right.length-(i+1)=(x.right.drop (i+1)).length:=by rw [List.length_drop]
   rw [hdl] at k2
   refine ⟨trivial,a',_,c',k1,?_⟩
   rw [hdl]
   have hin:In9 (ofK nl fs (x.right.drop (i+1))).1:=ofK_mem (B:=fun t=>0<=t/\t<9) (fun x t q=>(hI x t q).2) fun s hs q=>⟨(hsy s (List.mem_of_mem_drop hs)).1,by have:=(hsy s (List.mem_of_mem_drop hs)).2.1 q; have:=hm.t; omega⟩
   obtain ⟨v1,v2⟩:=ofK_sound (G:=g.prods) (fun x h=>(hN x).1 h) (fun x t h=>(hF x t).1 h) (x.right.drop (i+1))
   have fin:∀ (f:Int->Bool) (H5:KH),Le H25 H5->(∀ t,f t=((ofK nl fs (x.right.drop (i+1))).1 t||((ofK nl fs (x.right.drop (i+1))).2&&Y x.left t)))->Does (env Try.prog) 55 [.pointer (some ⟨n4,0,none⟩),.int .i64 x.right[i].pos,kV f] H5 fun v1 H2=>v1 = .tuple #[]/\∃ n3,n3<x.right.length-i/\(none:Option Nat)=none/\n4=n4/\(0:Nat)=0/\x.left=x.left/\x.ra=x.ra/\x.right.length=x.right.length/\x.rc=x.rc/\(g.toks.length:Int)=g.toks.length/\a14=a14/\g.nts.length=g.nts.length/\n16=n16/\a17=a17/\g.nts.length=g.nts.length/\n19=n19/\x.ra=x.ra/\x.right.length=x.right.length/\(x.right.length:Int)=x.right.length/\∃ (i':Nat) (Y:Int->Int->Bool) (d:Bool),((i+1:Nat):Int)=i'/\i'<=x.right.length/\n3=x.right.length-i'/\Gw Z H2 n4 b g.nts.length (rowK Y) d/\InN g.nts.length Y 9/\SndL g.prods g.toks.length Y/\Stp X0 Y d/\(d=false->c=false/\ClsAt nl fs X0 x i'):=by
    intro f H5 l5 hff
    have hf9:In9 f:=fun t q=>by
     rw [hff t,Bool.or_eq_true,Bool.and_eq_true] at q
     rcases q with q | ⟨_,q⟩
     .exact hin t q
     .exact (hY _ _ q).2
    refine c55 ok (Bxs.up w l5) s0 hp hf9 fun H' d' w' q1 q2=>⟨rfl,x.right.length-(i+1),by omega,rfl,rfl,rfl,rfl,rfl,rfl,rfl,rfl,rfl,rfl,rfl,rfl,rfl,rfl,rfl,rfl,rfl,i+1,_,d',rfl,by omega,rfl,w',up_in hY ⟨s0,hp⟩ hf9,fun i' t q=>?_,hst.add q1 q2,fun q=>?_⟩
    .simp only [Up,Bool.or_eq_true,Bool.and_eq_true,decide_eq_true_eq] at q
     rcases q with q | ⟨rfl,q⟩
     .exact hS i' t q
     .rw [hff t,Bool.or_eq_true,Bool.and_eq_true] at q
      rcases q with q | ⟨q,q'⟩
      .exact .fst x hmem _ _ _ t (parts_at z) y (v2 t q)
      .exact .nul x hmem _ _ _ t (parts_at z) y (v1 q) (hS _ _ q')
    .obtain ⟨q3,q4⟩:=q2 q
     obtain ⟨hc1,hc2⟩:=hc q3
     refine ⟨hc1,fun m hm' ym yt t ht=>?_⟩
     by_cases e:m=i
     .subst e
      rw [hst.no q3] at hff q4
      exact q4 t (by rw [hff t]; exact ht)
     .exact hc2 m hm' (by omega) yt t ht
   refine c37 ok (w.le.kold hn) (w.le.kold hf) k2 (hsy.drop (i+1)) hm.t.2 (by rw [List.length_drop]; have:=hpo.b; omega) fun H5 l5=>⟨_,_,_,_,_,_,_,_,_,_,rfl,trivial,⟨rfl,trivial⟩,fun y2=>?_,fun y2=>?_⟩
   .have w5:=Bxs.up w l5
    have w5:Gw Z H5 n4 b g.nts.length (rowK Y) d:=w5
    refine ⟨trivial,rfl,_,_,_,w5.ldS,hpo.a,b,0,rfl,_,_,_,_,_,_,_,_,_,w5.ldI (fun _=>rfl) hpo.a.1 hpo.a.2,c60 ok (f:=(ofK nl fs (x.right.drop (i+1))).1) (g:=Y x.left) fun H31 l31=>⟨_,_,_,_,_,_,_,_,_,rfl,trivial,trivial,?_⟩⟩
    unfold vc58_J0
    rw [hi1]
    exact fin _ H31 (l5.trans l31) fun t=>by rw [y2,Bool.true_and]
   .unfold vc58_J0
    rw [hi1]
    exact fin _ H5 l5 fun t=>by rw [y2,Bool.false_and,Bool.or_false]
 .have z:i=x.right.length:=by have:=of_decide_eq_false z; omega
  subst z
  exact hq H25 Y d w hY hS hst fun q=>⟨(hc q).1,(hc q).2.all⟩
end
end Va
end Go.Proofs.Ytefiipkfppaibaa
namespace Go.Ew
open Go.Ev Go.Deep
def tiH:TI:=⟨1,24,false,1,4,0,[],[.slice none 0 0]⟩
def tiB:TI:=⟨1,1,false,9,0,0,[],[.bool false]⟩
theorem Own.at2 {H0 H:KH} {sz n c:Nat} {a:OA} {cs:List Value} (h:Own H0 H sz a n c cs) (hn:0<n):∃ b E,a=some ⟨b,0,none⟩/\H b=some E/\H0 b=none:=by
 cases h with
 | nil=>omega
 | lit b _ _ h1 h2 h3 h4=>exact ⟨b,_,rfl,h1,h4⟩
 | grown b _ _ e h1 h2 h3 h4 h5 h6=>exact ⟨b,e,rfl,h1,h5⟩
end Go.Ew
namespace Go.Proofs.Ytefiipkfppaibaa
open Go.Ev Go.Ew
namespace Va
section
variable (ok : EnvOk (env Try.prog))
include ok
theorem c56 {Z:KH} {k0 k1:Nat} {g:Gm} {na fa:OA} {nc fc:Nat} {nl:Int->Bool} {fs:Int->Int->Bool} (hk:ld Z ⟨k0,0,none⟩ [.slice g.ta g.toks.length g.tc,.slice g.na g.nts.length g.nc,.slice g.pa g.prods.length g.pc]) (hk1:ld Z ⟨k1,0,none⟩ [.int .i64 g.toks.length,.slice na g.nts.length nc,.slice fa g.nts.length fc]) (hn:kold Z 1 na g.nts.length=some (famC (bit1 nl) g.nts.length)) (hN:IsN g.prods nl) (hf:kold Z 9 fa g.nts.length=some (famC (rowK fs) g.nts.length)) (hI:InN g.nts.length fs 9) (hF:IsF g.prods fs) (hg:GI Z g) (hm:MayG g) :
 Rnd (env Try.prog) 56 [.pointer (some ⟨k0,0,none⟩),.pointer (some ⟨k1,0,none⟩)] Z g.nts.length 9 rowK (SndL g.prods g.toks.length) (fun X=>X 0 g.toks.length=true/\∀ p∈g.prods,ClsP nl fs X p):=by
 intro H p b X Q w hX hP hq
 have hM:=hm.t
 have hNn:=hm.n
 have hin:In9 fun t=>decide (t=(g.toks.length:Int)):=fun t q=>by have:=of_decide_eq_true q; omega
 refine fn56 ok ⟨rfl,_,_,_,ldSub (m:=1) (w.le.ld hk) 0 (by simp),c57 ok (k:=(g.toks.length:Int)) (by omega) (by omega) fun H5 l5=>⟨_,_,_,_,_,_,_,_,_,rfl,c55 ok (f:=fun t=>decide (t=(g.toks.length:Int))) (Bxs.up w l5) (by omega) (by omega) hin fun H16 c16 w16 q1 q2=>⟨rfl,rfl,_,_,_,ldSub (m:=1) (w16.le.ld hk) 2 (by simp),?_⟩⟩⟩
 have st0:=(Stp.refl X).add q1 q2
 have in0:=up_in hX ⟨(by omega:(0:Int)<=0),(by omega:(0:Int)<g.nts.length)⟩ hin
 have sn0:SndL g.prods g.toks.length (Up X 0 fun t=>decide (t=(g.toks.length:Int))):=fun i t q=>by
  simp only [Up,Bool.or_eq_true,Bool.and_eq_true,decide_eq_true_eq] at q
  rcases q with q | ⟨rfl,rfl⟩
  .exact hP i t q
  .exact .zero
 have z0:c16=false->X 0 g.toks.length=true:=fun q=>(q2 q).2 _ (decide_eq_true rfl)
 clear q1 q2
 generalize hY0:(Up X 0 fun t=>decide (t=(g.toks.length:Int)))=Y0 at *
 show vc56_L1 _ _ _ _ _ _ _ _ _
 unfold vc56_L1
 refine ⟨fun k n4 n5 n6 n7 a8 n9 n10 x11 x12 H13=>n4=p/\n5=0/\n6=k1/\n7=0/\a8=g.pa/\n9=g.prods.length/\x11=g.prods.length/\∃ (i:Nat) (Y:Int->Int->Bool) (c:Bool),x12=i/\i<=g.prods.length/\k=g.prods.length-i/\Gw Z H13 p b g.nts.length (rowK Y) c/\InN g.nts.length Y 9/\SndL g.prods g.toks.length Y/\Stp X Y c/\(c=false->X 0 g.toks.length=true/\∀ j (hj:j<g.prods.length),j<i->ClsP nl fs X g.prods[j]),⟨g.prods.length,rfl,rfl,rfl,rfl,rfl,rfl,rfl,rfl,rfl,0,Y0,c16,rfl,by omega,rfl,w16,in0,sn0,st0,fun q=>⟨z0 q,fun _ _ z=>absurd z (by omega)⟩⟩,?_⟩
 rintro k n4 n5 n6 n7 a8 n9 n10 x11 x12 H13 ⟨rfl,rfl,rfl,rfl,rfl,rfl,rfl,i,Y,c,rfl,hi,rfl,w,hY,hS,hst,hc⟩
 refine ⟨fun z=>?_,fun z=>?_⟩
 .have z:i<g.prods.length:=by have:=of_decide_eq_true z; omega
  have e0:Int.toNat ((i:Nat):Int)=i:=by omega
  have hi1:IntKind.wrap .i64 (((i:Nat):Int)+1)=((i+1:Nat):Int):=by have:=hm.p; rw [wrap64 (by omega) (by omega)]; omega
  obtain ⟨b0,o0,ha,r0⟩:=pr_ld (hg.up w.le).p z
  rw [e0,hi1]
  refine ⟨⟨by omega,by omega⟩,b0,o0,ha,_,_,_,_,_,_,_,r0,_,_,_,_,_,_,_,w.le.ld hk1,c58 ok (X0:=X) w hg hm hn hN hf hI hF z hY hS hst fun H' X' c' w' h1 h2 h3 h4=>⟨rfl,g.prods.length-(i+1),by omega,rfl,rfl,rfl,rfl,rfl,rfl,rfl,rfl,rfl,i+1,X',c',rfl,by omega,rfl,w',h1,h2,h3,fun q=>⟨(hc (h4 q).1).1,fun j hj zz=>?_⟩⟩⟩
  by_cases y:j=i
  .subst y; exact (h4 q).2
  .exact (hc (h4 q).1).2 j hj (by omega)
 .have z:i=g.prods.length:=by have:=of_decide_eq_false z; omega
  subst z
  exact hq H13 Y c w hY hS hst fun q=>⟨(hc q).1,fun p hp=>by
   obtain ⟨j,hj,rfl⟩:=List.mem_iff_getElem.1 hp
   exact (hc q).2 j hj hj⟩
theorem c35 {g:Gm} {H:KH} {Q:PQ} (hg:GI H g) (hm:MayG g)
 (hq:∀ b H' fl,Le H H'->H b=none->kold H' 9 (some ⟨b,0,none⟩) g.nts.length=some (famC (rowK fl) g.nts.length)->IsL g.prods g.toks.length fl->Q (.slice (some ⟨b,0,none⟩) g.nts.length g.nts.length) H'):Does (env Try.prog) 35 [gv g] H Q:=by
 refine fn35 ok fun n1 h1=>?_
 have hl:=Le.new (e:=mkEnt [.slice g.ta g.toks.length g.tc,.slice g.na g.nts.length g.nc,.slice g.pa g.prods.length g.pc] 0) h1
 have r:ld (H.new n1 (mkEnt [.slice g.ta g.toks.length g.tc,.slice g.na g.nts.length g.nc,.slice g.pa g.prods.length g.pc] 0)) ⟨n1,0,none⟩ [.slice g.ta g.toks.length g.tc,.slice g.na g.nts.length g.nc,.slice g.pa g.prods.length g.pc]:=⟨rfl,_,if_pos rfl,mk_rd⟩
 refine ⟨_,_,_,_,_,_,_,_,_,r,c36 ok (hg.up hl) hm fun b1 b2 H12 nl fs l1 k1 hN k2 hI hF=>⟨_,_,_,_,_,_,_,rfl,fun n20 h20=>?_⟩⟩
 have hl2:=Le.new (e:=mkEnt [.int .i64 0,.slice none 0 0,.slice none 0 0] 0) h20
 have r20:ld (H12.new n20 (mkEnt [.int .i64 0,.slice none 0 0,.slice none 0 0] 0)) ⟨n20,0,none⟩ [.int .i64 0,.slice none 0 0,.slice none 0 0]:=⟨rfl,_,if_pos rfl,mk_rd⟩
 refine ⟨⟨[.int .i64 0,.slice none 0 0,.slice none 0 0],rfl,r20⟩,⟨_,if_pos rfl,rfl⟩,rfl,?_⟩
 generalize hK:KH.put (KH.new H12 n20 _) _ _=K
 have lK:Le H12 K:=by rw [<- hK]; exact le_put hl2 h20
 have rK:ld K ⟨n20,0,none⟩ [.int .i64 g.toks.length,.slice (some ⟨b1,0,none⟩) g.nts.length g.nts.length,.slice (some ⟨b2,0,none⟩) g.nts.length g.nts.length]:=by
  rw [<- hK]
  refine ⟨rfl,_,put_at (if_pos rfl),?_⟩
  exact rdWr (xs:=[]) (ys:=[.int .i64 0,.slice none 0 0,.slice none 0 0]) (zs:=[]) (vs:=[.int .i64 g.toks.length,.slice (some ⟨b1,0,none⟩) g.nts.length g.nts.length,.slice (some ⟨b2,0,none⟩) g.nts.length g.nts.length]) (N:=3) (o:=0) mk_rd rfl rfl
 have hl3:=hl.trans (l1.trans lK)
 refine ⟨_,_,_,ldSub (m:=1) ((l1.trans lK).ld r) 1 (by simp),c53 ok (caps:=[.pointer (some ⟨n1,0,none⟩),.pointer (some ⟨n20,0,none⟩)]) (c56 ok ((l1.trans lK).ld r) rK (lK.kold k1) hN (lK.kold k2) hI hF (hg.up hl3) hm) (fun i t q=>by cases q) (by have:=hm.n; omega) fun b H' X l hb hk hX hP hC=>⟨_,_,_,rfl,?_⟩⟩
 exact hq b H' X (hl3.trans l) (hl3.none hb) hk (isL_of hN hF hP hC.1 hC.2)
theorem c38 {b n c:Nat} {f:Int->Bool} {H:KH} {Q:PQ} (hk:kold H 1 (some ⟨b,0,none⟩) n=some (famC (bit1 f) n)) (h0:0<n) (hn:n<=1000)
 (hq:∀ a' c' H',Le H H'->Own H H' 1 a' n c' (famC (bit1 f) n)->Q (.slice a' n c') H'):Does (env Try.prog) 38 [.slice (some ⟨b,0,none⟩) n c] H Q:=by
 refine fn38 ok ⟨fun z=>(by cases z),fun _ n1 h1 n2 h2=>?_⟩
 have o:Own H (H.new n1 (mkEnt [] 0)) 1 (some ⟨n1,0,none⟩) 0 0 []:=.lit n1 0 [] (if_pos rfl) rfl (by decide) h1
 obtain ⟨a',c',H',f1,f2,f3,f4,f5⟩:=o.append (ti:=tiB) (nm:=n2) (m:=n) (new:=famC (bit1 f) n) (Le.new h1) h2 (by rw [fam_len (k:=1) (bit1_len f)]; rfl) (by omega) (by decide) (by decide)
 rw [Nat.zero_add] at f1 f2
 exact ⟨n,_,knew_of (ti:=tiB) ((Le.new h1).kold hk),a',n,c',H',f1,hq a' c' H' f3 f2⟩
theorem c33 {a:OA} {N M c:Nat} {X:Int->Int->Bool} {H:KH} {Q:PQ} (hk:kold H 9 a N=some (famC (rowK X) N)) (hN:N<=1000) (h0:0<M) (hM:M<=9)
 (hq:∀ a' c' H',Le H H'->RowsB H' a' N M X->Q (.slice a' N c') H'):Does (env Try.prog) 33 [.slice a N c,.int .i64 M] H Q:=by
 refine fn33 ok ?_
 show vc33_L1 _ _ _ _ _ _
 unfold vc33_L1
 refine ⟨fun k x4 a5 n6 n7 a8 n9 n10 x11 x12 H13=>x4=M/\a8=a/\n9=N/\x11=N/\∃ (l:List Hd) (Z:KH),x12=l.length/\n6=l.length/\l.length<=N/\k=N-l.length/\Le H Z/\Le Z H13/\Own Z H13 1 a5 l.length n7 (hdC M l)/\∀ i (h:i<l.length),kold Z 1 l[i].a M=some (famC (bit1 (X (i:Int))) M),⟨N,rfl,rfl,rfl,rfl,[],H,rfl,rfl,by simp,rfl,Le.refl H,Le.refl H,.nil,fun i h=>by simp at h⟩,?_⟩
 rintro k x4 a5 n6 n7 a8 n9 n10 x11 x12 H13 ⟨rfl,rfl,rfl,rfl,l,Z,rfl,rfl,hl,rfl,hZ,hZ2,o,hr⟩
 have hH:=hZ.trans hZ2
 refine ⟨fun z=>?_,fun z=>?_⟩
 .have z:l.length<n9:=by have:=of_decide_eq_true z; omega
  have e0:Int.toNat ((l.length:Nat):Int)=l.length:=by omega
  have eM:Int.toNat ((M:Nat):Int)=M:=by omega
  have hi1:IntKind.wrap .i64 (((l.length:Nat):Int)+1)=((l.length+1:Nat):Int):=by rw [wrap64 (by omega) (by omega)]; omega
  obtain ⟨b0,o0,ha,r0⟩:=fam_ld (k:=9) (fun _=>rfl) (hH.kold hk) z
  rw [e0,eM,hi1]
  refine ⟨⟨by omega,by omega⟩,b0,o0,ha,_,_,_,_,_,_,_,_,_,r0,fun n12 h12=>?_⟩
  have w0:=Bx9.mk0 (F:=fun _=>false) h12
  have w1:Bx9 H13 (KH.put (H13.new n12 (mkEnt (kC fun _=>false) 0)) ⟨n12,0,none⟩ (kC (X (l.length:Int)))) n12 (X (l.length:Int)):=Bxs.put w0 (j:=()) trivial (xs:=[]) (ys:=kC fun _=>false) (zs:=[]) (vs:=kC (X (l.length:Int))) (by simp) rfl (cs':=fun _=>kC (X (l.length:Int))) (by simp) fun _ _ hi=>absurd rfl hi
  refine ⟨⟨kC fun _=>false,rfl,w0.all⟩,Bxs.may w0 (j:=()) trivial,rfl,⟨by omega,by omega⟩,?_⟩
  refine c38 ok (w1.cut hM) h0 (by omega) fun a16 n18 H15 l15 o15=>⟨a16,M,n18,rfl,fun n19 h19 n20 h20=>?_⟩
  have l15:=w1.le.trans l15
  obtain ⟨b16,E16,e16,g16,f16⟩:=o15.at2 h0
  have hne:∀ b,blk a5=some b->b≠b16:=fun b hb e=>by
   obtain ⟨⟨E,q1⟩,_⟩:=o.has hb
   have:=w1.le b E q1
   rw [e] at this
   cases f16.symm.trans this
  have lZ:Le Z (offB a5 H15):=le_offB (hZ2.trans l15) fun b hb=>(o.has hb).2
  have l19:=Le.new (e:=mkEnt [.slice a16 M n18] 0) h19
  have o2:Own (offB a5 H15) (H15.new n19 (mkEnt [.slice a16 M n18] 0)) 1 a5 l.length n7 (hdC M l):=o.base (fun b hb=>offB_none hb) fun k e _ q=>l19 _ _ (l15 _ _ q)
  obtain ⟨a',c',H',f1,f2,f3,f4,f5⟩:=o2.append (ti:=tiH) (nm:=n20) (m:=1) (new:=[.slice a16 M n18]) ((offB_le a5 H15).trans l19) h20 rfl (by omega) (by decide) (by decide)
  refine ⟨1,_,knew_of (ti:=tiH) (lit_kold (if_pos rfl) rfl),a',_,c',H',f1,n9-(l.length+1),by omega,rfl,rfl,rfl,rfl,l++[⟨a16,n18⟩],offB a5 H15,by rw [List.length_append]; rfl,by rw [List.length_append]; rfl,by rw [List.length_append]; show l.length+1<=n9; omega,by rw [List.length_append]; rfl,hZ.trans lZ,f3,?_,fun i h=>?_⟩
  .rw [hdC_app,List.length_append]; exact f2
  .rw [List.getElem_append]
   split
   .rename_i hi
    exact lZ.kold (hr i hi)
   .rename_i hi
    have hi:i=l.length:=by simp at h; omega
    subst hi
    simp only [Nat.sub_self,List.getElem_cons_zero]
    exact offB_kold o15.cells fun b hb e=>hne b e (by rw [e16] at hb; exact (Option.some.inj hb).symm)
 .have z:l.length=n9:=by have:=of_decide_eq_false z; omega
  rw [z] at o ⊢
  exact hq a5 n7 H13 hH ⟨l,z,o.cells,fun i h=>hZ2.kold (hr i h)⟩
theorem c14 {g:Gm} {H:KH} {Q:PQ} (hg:GI H g) (hm:MayG g) (hq:∀ b H' nl,Le H H'->kold H' 1 (some ⟨b,0,none⟩) g.nts.length=some (famC (bit1 nl) g.nts.length)->IsN g.prods nl->Q (.slice (some ⟨b,0,none⟩) g.nts.length g.nts.length) H'):Does (env Try.prog) 14 [gv g] H Q:=by
 have hn:=hm.n
 refine fn14 ok (c31 ok hg hm.few fun b H2 l2 hb=>⟨b,rfl,fun z=>?_,fun z=>⟨⟨by omega,by omega,by omega⟩,fun n1 h1=>?_⟩⟩)
 .rw [hb.2 hm] at z; cases z
 have eN:Int.toNat ((g.nts.length:Nat):Int)=g.nts.length:=by omega
 have e0:lrep [.bool false] g.nts.length=famC (bit1 fun _=>false) g.nts.length:=fam_rep (h:=bit1 fun _=>false) fun _ _=>rfl
 rw [eN,e0]
 have l3:=Le.new (e:=mkEnt (famC (bit1 fun _=>false) g.nts.length) 0) h1
 refine c32 ok (hg.up (l2.trans l3)) hm fun b3 H3 nl l4 hb3 hk hN=>⟨_,_,_,rfl,?_⟩
 have hne:b3≠n1:=fun e=>by rw [e] at hb3; simp [KH.new] at hb3
 have hk':kold (H3.del n1) 1 (some ⟨b3,0,none⟩) g.nts.length=some (famC (bit1 nl) g.nts.length):=by
  obtain ⟨e,q1,q2⟩:=kold_some.1 hk
  exact kold_some.2 ⟨e,del_at q1 hne,q2⟩
 have w0:Bxs (H3.del n1) H3 (fun _:Unit=>True) (fun _=>n1) (fun _=>famC (bit1 fun _=>false) g.nts.length):=⟨del_le H3 n1,fun _ _=>if_pos rfl,fun _ _=>⟨_,l4 _ _ (if_pos rfl),rfl,mk_rd⟩,fun _ _ _ _ _=>rfl⟩
 have hHZ:Le H (H3.del n1):=le_del (l2.trans (l3.trans l4)) (l2.none h1)
 unfold vc14_L1
 rw [eN]
 refine ⟨fun k a4 n5 n6 a7 n8 n9 x10 x11 H12=>a4=some ⟨n1,0,none⟩/\n5=g.nts.length/\n6=g.nts.length/\a7=some ⟨b3,0,none⟩/\n8=g.nts.length/\x10=g.nts.length/\∃ i:Nat,x11=i/\i<=g.nts.length/\k=g.nts.length-i/\Bxs (H3.del n1) H12 (fun _:Unit=>True) (fun _=>n1) (fun _=>famC (bit1 fun t=>decide (t<i)&&nl t) g.nts.length),⟨g.nts.length,rfl,rfl,rfl,rfl,rfl,rfl,0,rfl,by omega,rfl,?_⟩,?_⟩
 .rw [show famC (bit1 fun t=>decide (t<((0:Nat):Int))&&nl t) g.nts.length=famC (bit1 fun _=>false) g.nts.length from fam_congr fun i _=>by simp only [bit1]; rw [decide_eq_false (by omega)]; rfl]
  exact w0
 rintro k a4 n5 n6 a7 n8 n9 x10 x11 H12 ⟨rfl,rfl,rfl,rfl,rfl,rfl,i,rfl,hi,rfl,w⟩
 refine ⟨fun z=>?_,fun z=>?_⟩
 .have z:i<g.nts.length:=by have:=of_decide_eq_true z; omega
  have ei:Int.toNat ((i:Nat):Int)=i:=by omega
  have hi1:IntKind.wrap .i64 (((i:Nat):Int)+1)=((i+1:Nat):Int):=by rw [wrap64 (by omega) (by omega)]; omega
  obtain ⟨b0,o0,ha,r0⟩:=fam_ld (k:=1) (bit1_len nl) (w.le.kold hk') z
  have c1:=fam_cut (h:=bit1 fun t=>decide (t<(i:Int))&&nl t) z
  have c2:=fam_set (h:=bit1 fun t=>decide (t<(i:Int))&&nl t) (h':=bit1 fun t=>decide (t<((i+1:Nat):Int))&&nl t) z fun j hj=>by
   simp only [bit1]
   rw [show decide ((j:Int)<((i+1:Nat):Int))=decide ((j:Int)<(i:Int)) from by
    by_cases q:(j:Int)<(i:Int)
    .rw [decide_eq_true q,decide_eq_true (by omega)]
    .rw [decide_eq_false q,decide_eq_false (by omega)]]
  have r:=Bxs.ld w (j:=()) trivial c1
  have w':=Bxs.put w (j:=()) trivial c1 (vs:=bit1 (fun t=>decide (t<((i+1:Nat):Int))&&nl t) (i:Int)) rfl (cs':=fun _=>famC (bit1 fun t=>decide (t<((i+1:Nat):Int))&&nl t) g.nts.length) c2 fun _ _ hi=>absurd rfl hi
  rw [fam_len (k:=1) (bit1_len _)] at r w'
  have ev:bit1 (fun t=>decide (t<((i+1:Nat):Int))&&nl t) (i:Int)=[.bool (nl i)]:=by simp only [bit1]; rw [decide_eq_true (by omega),Bool.true_and]
  rw [ev] at w'
  rw [ei,hi1]
  refine ⟨⟨by omega,by omega⟩,b0,o0,ha,_,r0,⟨by omega,by omega⟩,n1,0,rfl,⟨bit1 (fun t=>decide (t<(i:Int))&&nl t) (i:Int),rfl,by rw [Nat.zero_add]; exact r⟩,Bxs.may w (j:=()) trivial,g.nts.length-(i+1),by omega,rfl,rfl,rfl,rfl,rfl,rfl,i+1,rfl,by omega,rfl,by rw [Nat.zero_add]; exact w'⟩
 .have z:i=g.nts.length:=by have:=of_decide_eq_false z; omega
  subst z
  refine hq n1 H12 nl (hHZ.trans w.le) ?_ hN
  rw [<- show famC (bit1 fun t=>decide (t<((g.nts.length:Nat):Int))&&nl t) g.nts.length=famC (bit1 nl) g.nts.length from fam_congr fun i h=>by simp only [bit1]; rw [decide_eq_true (by omega),Bool.true_and]]
  exact Bxs.kold w (j:=()) trivial (by rw [fam_len (k:=1) (bit1_len _)])
theorem c16 {g:Gm} {H:KH} {Q:PQ} (hg:GI H g) (hm:MayG g) (hq:∀ a c H' fs,Le H H'->RowsB H' a g.nts.length g.toks.length fs->IsF g.prods fs->Q (.slice a g.nts.length c) H'):Does (env Try.prog) 16 [gv g] H Q:=by
 have hn:=hm.n
 have ht:=hm.t
 refine fn16 ok (c31 ok hg hm.few fun b H2 l2 hb=>⟨b,rfl,fun z=>?_,fun z=>⟨trivial,c32 ok (hg.up l2) hm fun b1 H3 nl l3 _ k1 hN=>⟨_,_,_,rfl,⟨rfl,⟨rfl,rfl⟩,rfl,rfl,trivial⟩,c34 ok (hg.up (l2.trans l3)) hm k1 hN fun b2 H7 fs l7 _ k2 hI hF=>⟨_,_,_,rfl,⟨⟨rfl,rfl⟩,rfl,rfl,trivial⟩,c33 ok k2 (by omega) (by omega) (by omega) fun a' c' H' l' hr=>⟨_,_,_,rfl,trivial,hq a' c' H' fs (l2.trans (l3.trans (l7.trans l'))) hr hF⟩⟩⟩⟩⟩)
 rw [hb.2 hm] at z; cases z
theorem c17 {g:Gm} {H:KH} {Q:PQ} (hg:GI H g) (hm:MayG g) (hq:∀ a c H' fl,Le H H'->RowsB H' a g.nts.length (g.toks.length+1) fl->IsL g.prods g.toks.length fl->Q (.slice a g.nts.length c) H'):Does (env Try.prog) 17 [gv g] H Q:=by
 have hn:=hm.n
 have ht:=hm.t
 have e1:IntKind.wrap .i64 ((g.toks.length:Int)+1)=((g.toks.length+1:Nat):Int):=by rw [wrap64 (by omega) (by omega)]; omega
 refine fn17 ok (c31 ok hg hm.few fun b H2 l2 hb=>⟨b,rfl,fun z=>?_,fun z=>⟨trivial,c35 ok (hg.up l2) hm fun b1 H3 fl l3 _ k1 hL=>⟨_,_,_,rfl,⟨⟨rfl,rfl⟩,rfl,rfl,rfl,trivial⟩,?_⟩⟩⟩)
 .rw [hb.2 hm] at z; cases z
 .rw [e1]
  exact c33 ok k1 (by omega) (by omega) (by omega) fun a' c' H' l' hr=>⟨_,_,_,rfl,trivial,hq a' c' H' fl (l2.trans (l3.trans l')) hr hL⟩
end
end Va
end Go.Proofs.Ytefiipkfppaibaa
namespace Go.Ew
open Go.Ev Go.Deep
theorem bit_ld {H:KH} {a:OA} {M i:Nat} {f:Int->Bool} (h:kold H 1 a M=some (famC (bit1 f) M)) (hi:i<M):∃ b o,a=some ⟨b,o,none⟩/\ld H ⟨b,o+i*1,none⟩ [.bool (f (i:Int))]:=fam_ld (k:=1) (bit1_len f) h hi
end Go.Ew
namespace Go.Proofs.Ytefiipkfppaibaa
open Go.Ev Go.Ew
namespace Va
theorem c8 {H:KH} {Q:PQ} (hq:Q (.bool true) H):Does (env Try.prog) 8 [] H Q:=does_true (by kernel_rfl) (by kernel_rfl) (by kernel_rfl) hq
section
variable (ok : EnvOk (env Try.prog))
include ok
end
end Va
end Go.Proofs.Ytefiipkfppaibaa
namespace Go.Ew
open Go.Ev Go.Deep
inductive Ix where
 | n
 | f (i:Nat)
 | o (i:Nat)
def ixD (N:Nat):Ix->Prop
 | .n=>True
 | .f i=>i<N
 | .o i=>i<N
def ixN (nb:Nat) (fb ob:Nat->Nat):Ix->Nat
 | .n=>nb
 | .f i=>fb i
 | .o i=>ob i
def ixC (N M:Nat) (Y:Int->Int->Bool):Ix->List Value
 | .n=>famC (bit1 fun i=>Y i 0) N
 | .f i=>famC (bit1 fun t=>Y (i:Int) (1+t)) M
 | .o i=>famC (bit1 fun t=>Y (i:Int) (1+(M:Int)+t)) (M+1)
def hdrC (M:Nat) (fb:Nat->Nat) (i:Int):List Value:=[.slice (some ⟨fb i.toNat,0,none⟩) M M]
structure RefS (Z H:KH) (N M nb:Nat) (fb ob:Nat->Nat) (aF aO:OA) (Y:Int->Int->Bool):Prop where
 b:Bxs Z H (ixD N) (ixN nb fb ob) (ixC N M Y)
 hf:kold Z 1 aF N=some (famC (hdrC M fb) N)
 ho:kold Z 1 aO N=some (famC (hdrC (M+1) ob) N)
def Up1 (Y:Int->Int->Bool) (x c:Int):Int->Int->Bool:=Up Y x fun t=>decide (t=c)
theorem up1_at (Y:Int->Int->Bool) (x c:Int):Up1 Y x c x c=true:=by simp [Up1,Up]
theorem up1_ne {Y:Int->Int->Bool} {x c i t:Int} (h:i≠x\/t≠c):Up1 Y x c i t=Y i t:=by
 unfold Up1 Up
 rcases h with h | h
 .rw [decide_eq_false h,Bool.false_and,Bool.or_false]
 .show (Y i t||(decide (i=x)&&decide (t=c)))=Y i t
  rw [decide_eq_false h,Bool.and_false,Bool.or_false]
section
variable {Z H : KH} {N M nb : Nat} {fb ob : Nat -> Nat} {aF aO : OA} {Y : Int -> Int -> Bool}
theorem RefS.up {H':KH} (h:RefS Z H N M nb fb ob aF aO Y) (hl:Le H H'):RefS Z H' N M nb fb ob aF aO Y:=⟨h.b.up hl,h.hf,h.ho⟩
theorem bit_cut {f:Int->Bool} {n i:Nat} (hi:i<n):famC (bit1 f) n=famC (bit1 f) i++[.bool (f (i:Int))]++(List.range' (i+1) (n-i-1)).flatMap fun j:Nat=>bit1 f (j:Int):=fam_cut hi
theorem bit_len (f:Int->Bool) (n:Nat):(famC (bit1 f) n).length=n:=by rw [fam_len (k:=1) (bit1_len f),Nat.mul_one]
theorem bit_set {f f':Int->Bool} {n i:Nat} (hi:i<n) (e:∀ j:Nat,j≠i->f' (j:Int)=f (j:Int)):famC (bit1 f') n=famC (bit1 f) i++[.bool (f' (i:Int))]++(List.range' (i+1) (n-i-1)).flatMap fun j:Nat=>bit1 f (j:Int):=fam_set (h':=bit1 f') hi fun j hj=>by unfold bit1; rw [e j hj]
theorem bit_congr {f f':Int->Bool} {n:Nat} (e:∀ i:Nat,i<n->f (i:Int)=f' (i:Int)):famC (bit1 f) n=famC (bit1 f') n:=fam_congr fun i hi=>by unfold bit1; rw [e i hi]
theorem RefS.ldN (h:RefS Z H N M nb fb ob aF aO Y) {i:Nat} (hi:i<N):ld H ⟨nb,0+i*1,none⟩ [.bool (Y (i:Int) 0)]:=by
 have:=Bxs.ld h.b (j:=.n) trivial (bit_cut (f:=fun i=>Y i 0) hi)
 rw [bit_len] at this
 rw [Nat.zero_add,Nat.mul_one]
 exact this
theorem RefS.ldF (h:RefS Z H N M nb fb ob aF aO Y) {i t:Nat} (hi:i<N) (ht:t<M):ld H ⟨fb i,0+t*1,none⟩ [.bool (Y (i:Int) (1+(t:Int)))]:=by
 have:=Bxs.ld h.b (j:=.f i) hi (bit_cut (f:=fun t=>Y (i:Int) (1+t)) ht)
 rw [bit_len] at this
 rw [Nat.zero_add,Nat.mul_one]
 exact this
theorem RefS.ldO (h:RefS Z H N M nb fb ob aF aO Y) {i t:Nat} (hi:i<N) (ht:t<M+1):ld H ⟨ob i,0+t*1,none⟩ [.bool (Y (i:Int) (1+(M:Int)+(t:Int)))]:=by
 have:=Bxs.ld h.b (j:=.o i) hi (bit_cut (f:=fun t=>Y (i:Int) (1+(M:Int)+t)) ht)
 rw [bit_len] at this
 rw [Nat.zero_add,Nat.mul_one]
 exact this
theorem RefS.hdF (h:RefS Z H N M nb fb ob aF aO Y) {i:Nat} (hi:i<N):∃ b o,aF=some ⟨b,o,none⟩/\ld H ⟨b,o+i*1,none⟩ [.slice (some ⟨fb i,0,none⟩) M M]:=by
 obtain ⟨b,o,e,r⟩:=fam_ld (k:=1) (fun _=>rfl) (h.b.le.kold h.hf) hi
 exact ⟨b,o,e,by simpa [hdrC] using r⟩
theorem RefS.hdO (h:RefS Z H N M nb fb ob aF aO Y) {i:Nat} (hi:i<N):∃ b o,aO=some ⟨b,o,none⟩/\ld H ⟨b,o+i*1,none⟩ [.slice (some ⟨ob i,0,none⟩) (M+1) (M+1)]:=by
 obtain ⟨b,o,e,r⟩:=fam_ld (k:=1) (fun _=>rfl) (h.b.le.kold h.ho) hi
 exact ⟨b,o,e,by simpa [hdrC] using r⟩
theorem RefS.setN (h:RefS Z H N M nb fb ob aF aO Y) {i:Nat} (hi:i<N):RefS Z (H.put ⟨nb,0+i*1,none⟩ [.bool true]) N M nb fb ob aF aO (Up1 Y (i:Int) 0):=by
 have c1:=bit_cut (f:=fun j=>Y j 0) hi
 have c2:=bit_set (f:=fun j=>Y j 0) (f':=fun j=>Up1 Y (i:Int) 0 j 0) hi fun j hj=>up1_ne (.inl (by omega))
 simp only [up1_at] at c2
 have:=Bxs.put h.b (j:=.n) trivial c1 (vs:=[.bool true]) rfl (cs':=ixC N M (Up1 Y (i:Int) 0)) c2 fun x hx hne=>by
  cases x with
  | n=>exact absurd rfl hne
  | f j=>exact bit_congr fun t ht=>up1_ne (.inr (by omega))
  | o j=>exact bit_congr fun t ht=>up1_ne (.inr (by omega))
 rw [bit_len] at this
 rw [Nat.zero_add,Nat.mul_one]
 exact ⟨this,h.hf,h.ho⟩
theorem RefS.setF (h:RefS Z H N M nb fb ob aF aO Y) {i t:Nat} (hi:i<N) (ht:t<M):RefS Z (H.put ⟨fb i,0+t*1,none⟩ [.bool true]) N M nb fb ob aF aO (Up1 Y (i:Int) (1+(t:Int))):=by
 have c1:=bit_cut (f:=fun t=>Y (i:Int) (1+t)) ht
 have c2:=bit_set (f:=fun t=>Y (i:Int) (1+t)) (f':=fun s=>Up1 Y (i:Int) (1+(t:Int)) (i:Int) (1+s)) ht fun j hj=>up1_ne (.inr (by omega))
 simp only [up1_at] at c2
 have:=Bxs.put h.b (j:=.f i) hi c1 (vs:=[.bool true]) rfl (cs':=ixC N M (Up1 Y (i:Int) (1+(t:Int)))) c2 fun x hx hne=>by
  cases x with
  | n=>exact bit_congr fun s hs=>up1_ne (.inr (by omega))
  | f j=>exact bit_congr fun s hs=>up1_ne (.inl fun e=>hne (by rw [show j=i by omega]))
  | o j=>exact bit_congr fun s hs=>up1_ne (.inr (by omega))
 rw [bit_len] at this
 rw [Nat.zero_add,Nat.mul_one]
 exact ⟨this,h.hf,h.ho⟩
theorem RefS.setO (h:RefS Z H N M nb fb ob aF aO Y) {i t:Nat} (hi:i<N) (ht:t<M+1):RefS Z (H.put ⟨ob i,0+t*1,none⟩ [.bool true]) N M nb fb ob aF aO (Up1 Y (i:Int) (1+(M:Int)+(t:Int))):=by
 have c1:=bit_cut (f:=fun t=>Y (i:Int) (1+(M:Int)+t)) ht
 have c2:=bit_set (f:=fun t=>Y (i:Int) (1+(M:Int)+t)) (f':=fun s=>Up1 Y (i:Int) (1+(M:Int)+(t:Int)) (i:Int) (1+(M:Int)+s)) ht fun j hj=>up1_ne (.inr (by omega))
 simp only [up1_at] at c2
 have:=Bxs.put h.b (j:=.o i) hi c1 (vs:=[.bool true]) rfl (cs':=ixC N M (Up1 Y (i:Int) (1+(M:Int)+(t:Int)))) c2 fun x hx hne=>by
  cases x with
  | n=>exact bit_congr fun s hs=>up1_ne (.inr (by omega))
  | f j=>exact bit_congr fun s hs=>up1_ne (.inr (by omega))
  | o j=>exact bit_congr fun s hs=>up1_ne (.inl fun e=>hne (by rw [show j=i by omega]))
 rw [bit_len] at this
 rw [Nat.zero_add,Nat.mul_one]
 exact ⟨this,h.hf,h.ho⟩
end
def nlY (Y:Int->Int->Bool) (x:Int):Bool:=Y x 0
def fsY (M:Nat) (Y:Int->Int->Bool) (x t:Int):Bool:=decide (0<=t)&&decide (t<M)&&Y x (1+t)
def flY (M:Nat) (Y:Int->Int->Bool) (x t:Int):Bool:=decide (0<=t)&&decide (t<M+1)&&Y x (1+(M:Int)+t)
theorem fsY_at {M:Nat} {Y:Int->Int->Bool} {x t:Int} (h0:0<=t) (h1:t<M):fsY M Y x t=Y x (1+t):=by simp [fsY,h0,h1]
theorem flY_at {M:Nat} {Y:Int->Int->Bool} {x t:Int} (h0:0<=t) (h1:t<M+1):flY M Y x t=Y x (1+(M:Int)+t):=by simp [flY,h0,h1]
structure Snd3 (G:List Pr) (M:Nat) (Y:Int->Int->Bool):Prop where
 n:∀ x,nlY Y x=true->Nul G x
 f:∀ x t,fsY M Y x t=true->Fst G x t
 o:∀ x t,flY M Y x t=true->Flw G M x t
structure Cls1 (M:Nat) (Y:Int->Int->Bool) (p:Pr):Prop where
 n:(ofK (nlY Y) (fsY M Y) p.right).2=true->nlY Y p.left=true
 f:∀ t,(ofK (nlY Y) (fsY M Y) p.right).1 t=true->fsY M Y p.left t=true
 o:ClsP (nlY Y) (fsY M Y) (flY M Y) p
theorem ofK_null {nl:Int->Bool} {fs:Int->Int->Bool}:∀ {r:List Sy},(∀ s∈r,s.tok=false/\nl s.pos=true)->(ofK nl fs r).2=true
 | [],_=>rfl
 | s :: r,h=>by
   have:=h s (List.mem_cons_self ..)
   rw [ofK,this.1,this.2]
   exact ofK_null fun x hx=>h x (List.mem_cons_of_mem _ hx)
theorem is3_of {G:List Pr} {M:Nat} {Y:Int->Int->Bool} (h:Snd3 G M Y) (h0:flY M Y 0 M=true) (hc:∀ p∈G,Cls1 M Y p):IsN G (nlY Y)/\IsF G (fsY M Y)/\IsL G M (flY M Y):=by
 have a:IsN G (nlY Y):=fun x=>⟨h.n x,nul_all (fun p hp q=>(hc p hp).n (ofK_null q)) x⟩
 have b:IsF G (fsY M Y):=fun x t=>⟨h.f x t,fst_all (fun x q=>(a x).2 q) (fun p hp=>(hc p hp).f) x t⟩
 exact ⟨a,b,fun x t=>⟨h.o x t,flw_all (fun x q=>(a x).2 q) (fun x t q=>(b x t).2 q) h0 (fun p hp=>(hc p hp).o) x t⟩⟩
end Go.Ew
namespace Go.Proofs.Ytefiipkfppaibaa
open Go.Ev Go.Ew
namespace Va
section
variable (ok : EnvOk (env Try.prog))
include ok
theorem c19 {Z H:KH} {N M nb cF cO gc gn1 gc1 gn2 gc2 rc:Nat} {fb ob:Nat->Nat} {aF aO ga ga1 ga2 ra:OA} {Y:Int->Int->Bool} {r:List Sy} {Q:PQ} (s:RefS Z H N M nb fb ob aF aO Y) (hr:kold H 2 ra r.length=some (syC r)) (hs:SymsIn M N r) (hM:M<=8) (hl:r.length<=1000)
 (hq:∀ b H',Le H H'->H b=none->kold H' 1 (some ⟨b,0,none⟩) M=some (famC (bit1 (ofK (nlY Y) (fsY M Y) r).1) M)->Q (.tuple #[.slice (some ⟨b,0,none⟩) M M,.bool (ofK (nlY Y) (fsY M Y) r).2]) H') :
 Does (env Try.prog) 19 [.agg #[.slice (some ⟨nb,0,none⟩) N N,.slice aF N cF,.slice aO N cO],.agg #[.slice ga M gc,.slice ga1 gn1 gc1,.slice ga2 gn2 gc2],.slice ra r.length rc] H Q:=by
 refine fn19 ok ⟨⟨by omega,by omega,by omega⟩,fun n1 h1=>?_⟩
 have eM:Int.toNat ((M:Nat):Int)=M:=by omega
 have e0:lrep [.bool false] M=famC (bit1 fun _=>false) M:=fam_rep (h:=bit1 fun _=>false) fun _ _=>rfl
 unfold vc19_L4
 rw [eM,e0]
 have w0:Bxs H (H.new n1 (mkEnt (famC (bit1 fun _=>false) M) 0)) (fun _:Unit=>True) (fun _=>n1) (fun _=>famC (bit1 fun _=>false) M):=⟨Le.new h1,fun _ _=>h1,fun _ _=>⟨_,if_pos rfl,rfl,mk_rd⟩,fun _ _ _ _ _=>rfl⟩
 refine ⟨fun k a4 n5 n6 a7 n8 n9 a10 n11 n12 a13 n14 n15 a16 n17 n18 x19 H20=>a4=ra/\n5=r.length/\a7=some ⟨nb,0,none⟩/\n8=N/\a10=aF/\n11=N/\a16=some ⟨n1,0,none⟩/\n17=M/\n18=M/\∃ (i:Nat) (F:Int->Bool),x19=i/\i<=r.length/\k=r.length-i/\Bxs H H20 (fun _:Unit=>True) (fun _=>n1) (fun _=>famC (bit1 F) M)/\(∀ t:Int,0<=t->t<M->(F t||(ofK (nlY Y) (fsY M Y) (r.drop i)).1 t)=(ofK (nlY Y) (fsY M Y) r).1 t)/\(ofK (nlY Y) (fsY M Y) (r.drop i)).2=(ofK (nlY Y) (fsY M Y) r).2,⟨r.length,rfl,rfl,rfl,rfl,rfl,rfl,rfl,rfl,rfl,0,(fun _=>false),rfl,by omega,rfl,w0,fun t _ _=>rfl,rfl⟩,?_⟩
 rintro k a4 n5 n6 a7 n8 n9 a10 n11 n12 a13 n14 n15 a16 n17 n18 x19 H20 ⟨rfl,rfl,rfl,rfl,rfl,rfl,rfl,rfl,rfl,i,F,rfl,hi,rfl,w,hF,h2⟩
 obtain ⟨RA,eRA⟩:∃ q,q=a4:=⟨_,rfl⟩
 obtain ⟨AF,eAF⟩:∃ q,q=a10:=⟨_,rfl⟩
 obtain ⟨NN,eNN⟩:∃ q,q=n11:=⟨_,rfl⟩
 subst eRA eAF eNN
 have fin:∀ (F':Int->Bool) (b:Bool) (H':KH),Bxs H H' (fun _:Unit=>True) (fun _=>n1) (fun _=>famC (bit1 F') n18)->(∀ t:Int,0<=t->t<n18->F' t=(ofK (nlY Y) (fsY n18 Y) r).1 t)->b=(ofK (nlY Y) (fsY n18 Y) r).2->Q (.tuple #[.slice (some ⟨n1,0,none⟩) n18 n18,.bool b]) H':=fun F' b H' w' q1 q2=>by
  rw [q2]
  refine hq n1 H' w'.le h1 ?_
  rw [<- bit_congr (f:=F') fun t ht=>q1 (t:Int) (by omega) (by omega)]
  exact Bxs.kold w' (j:=()) trivial (by rw [bit_len]; omega)
 have at1:∀ {H':KH} {F':Int->Bool} {t:Nat},Bxs H H' (fun _:Unit=>True) (fun _=>n1) (fun _=>famC (bit1 F') n18)->t<n18->ld H' ⟨n1,0+t*1,none⟩ [.bool (F' (t:Int))]:=fun {H' F' t} w' ht=>by
  have:=Bxs.ld w' (j:=()) trivial (bit_cut (f:=F') ht)
  rw [bit_len] at this
  rw [Nat.zero_add,Nat.mul_one]
  exact this
 have set1:∀ {H':KH} {F' F2:Int->Bool} {t:Nat},Bxs H H' (fun _:Unit=>True) (fun _=>n1) (fun _=>famC (bit1 F') n18)->t<n18->(∀ j:Nat,j≠t->F2 (j:Int)=F' (j:Int))->Bxs H (H'.put ⟨n1,0+t*1,none⟩ [.bool (F2 (t:Int))]) (fun _:Unit=>True) (fun _=>n1) (fun _=>famC (bit1 F2) n18):=fun {H' F' F2 t} w' ht e=>by
  have:=Bxs.put w' (j:=()) trivial (bit_cut (f:=F') ht) (vs:=[.bool (F2 (t:Int))]) rfl (cs':=fun _=>famC (bit1 F2) n18) (bit_set ht e) fun _ _ hi=>absurd rfl hi
  rw [bit_len] at this
  rw [Nat.zero_add,Nat.mul_one]
  exact this
 refine ⟨fun z=>?_,fun z=>?_⟩
 .have z:i<r.length:=by have:=of_decide_eq_true z; omega
  have ei:Int.toNat ((i:Nat):Int)=i:=by omega
  have hi1:IntKind.wrap .i64 (((i:Nat):Int)+1)=((i+1:Nat):Int):=by rw [wrap64 (by omega) (by omega)]; omega
  obtain ⟨b0,o0,ha,r0⟩:=sy_ld (w.le.kold hr) z
  obtain ⟨s0,s1,s2⟩:=hs _ (List.getElem_mem z)
  rw [List.drop_eq_getElem_cons z,ofK] at hF h2
  rw [ei]
  have ep:(((r[i]).pos.toNat:Nat):Int)=(r[i]).pos:=by omega
  refine ⟨⟨by omega,by omega⟩,b0,o0,ha,_,_,r0,fun y=>?_,fun y=>?_⟩
  .rw [y] at hF h2
   have hp:=s1 y
   have r1:=at1 w (t:=(r[i]).pos.toNat) (by omega)
   have w2:=set1 w (t:=(r[i]).pos.toNat) (F2:=fun t=>F t||decide (t=(r[i]).pos)) (by omega) fun j hj=>by
    rw [decide_eq_false (by omega),Bool.or_false]
   have ev:(F (((r[i]).pos.toNat:Nat):Int)||decide ((((r[i]).pos.toNat:Nat):Int)=(r[i]).pos))=true:=by rw [ep,decide_eq_true rfl,Bool.or_true]
   simp only [ev] at w2
   exact ⟨⟨s0,hp⟩,n1,0,rfl,⟨[.bool (F (((r[i]).pos.toNat:Nat):Int))],rfl,r1⟩,Bxs.may w (j:=()) trivial,fin _ _ _ w2 hF h2⟩
  .rw [y] at hF h2
   have hp:=s2 y
   unfold vc19_L2
   refine ⟨fun k a4 n5 n6 a7 n8 n9 a10 n11 n12 a13 n14 n15 a16 n17 n18' x19 b20 x21 x22 H23=>a4=RA/\n5=r.length/\a7=some ⟨nb,0,none⟩/\n8=NN/\a10=AF/\n11=NN/\a16=some ⟨n1,0,none⟩/\n17=n18/\n18'=n18/\x19=i/\x21=(r[i]).pos/\∃ t:Nat,x22=t/\t<=n18/\k=n18-t/\Bxs H H23 (fun _:Unit=>True) (fun _=>n1) (fun _=>famC (bit1 fun u=>F u||(decide (u<t)&&fsY n18 Y (r[i]).pos u)) n18),⟨n18,rfl,rfl,rfl,rfl,rfl,rfl,rfl,rfl,rfl,rfl,rfl,0,rfl,by omega,rfl,?_⟩,?_⟩
   .rw [<- bit_congr (f:=F) fun t ht=>by rw [decide_eq_false (by omega),Bool.false_and,Bool.or_false]]
    exact w
   rintro k a4 n5 n6 a7 n8 n9 a10 n11 n12 a13 n14 n15 a16 n17 n18' x19 b20 x21 x22 H23 ⟨rfl,rfl,rfl,rfl,rfl,rfl,rfl,rfl,rfl,rfl,rfl,t,rfl,ht,rfl,w⟩
   have s':=s.up w.le
   refine ⟨fun z2=>?_,fun z2=>?_⟩
   .have z2:t<n18':=by have:=of_decide_eq_true z2; omega
    have et:Int.toNat ((t:Nat):Int)=t:=by omega
    have ht1:IntKind.wrap .i64 (((t:Nat):Int)+1)=((t+1:Nat):Int):=by rw [wrap64 (by omega) (by omega)]; omega
    have r1:=at1 w z2
    have ev:(F (t:Int)||(decide ((t:Int)<(t:Int))&&fsY n18' Y (r[i]).pos t))=F (t:Int):=by rw [decide_eq_false (by omega),Bool.false_and,Bool.or_false]
    simp only [ev] at r1
    have nx:∀ v:Bool,v=(F (t:Int)||fsY n18' Y (r[i]).pos t)->Bxs H (H23.put ⟨n1,0+t*1,none⟩ [.bool v]) (fun _:Unit=>True) (fun _=>n1) (fun _=>famC (bit1 fun u=>F u||(decide (u<((t+1:Nat):Int))&&fsY n18' Y (r[i]).pos u)) n18'):=fun v hv=>by
     have:=set1 w z2 (F2:=fun u=>F u||(decide (u<((t+1:Nat):Int))&&fsY n18' Y (r[i]).pos u)) fun j hj=>by
      rw [show decide ((j:Int)<((t+1:Nat):Int))=decide ((j:Int)<(t:Int)) from by
       by_cases q:(j:Int)<(t:Int)
       .rw [decide_eq_true q,decide_eq_true (by omega)]
       .rw [decide_eq_false q,decide_eq_false (by omega)]]
     have ev:(F (t:Int)||(decide ((t:Int)<((t+1:Nat):Int))&&fsY n18' Y (r[i]).pos t))=v:=by rw [decide_eq_true (by omega),Bool.true_and,hv]
     simp only [ev] at this
     exact this
    rw [et,ht1]
    have bt:0<=((t:Nat):Int)/\((t:Nat):Int)<n18':=⟨by omega,by omega⟩
    refine ⟨bt,n1,0,rfl,_,r1,fun q=>?_,fun q=>?_⟩
    .exact ⟨bt,n1,0,rfl,⟨[.bool (F (t:Int))],rfl,r1⟩,Bxs.may w (j:=()) trivial,n18'-(t+1),by omega,rfl,rfl,rfl,rfl,rfl,rfl,rfl,rfl,rfl,rfl,rfl,t+1,rfl,by omega,rfl,nx true (by rw [q]; rfl)⟩
    .obtain ⟨b5,o5,ha5,r5⟩:=s'.hdF (i:=(r[i]).pos.toNat) (by omega)
     have r6:=s'.ldF (i:=(r[i]).pos.toNat) (t:=t) (by omega) z2
     rw [ep] at r6
     refine ⟨⟨s0,hp⟩,b5,o5,ha5,_,_,_,r5,bt,fb (r[i]).pos.toNat,0,rfl,_,r6,bt,n1,0,rfl,⟨[.bool (F (t:Int))],rfl,r1⟩,Bxs.may w (j:=()) trivial,n18'-(t+1),by omega,rfl,rfl,rfl,rfl,rfl,rfl,rfl,rfl,rfl,rfl,rfl,t+1,rfl,by omega,rfl,nx _ (by rw [q,fsY_at (by omega) (by omega)]; rfl)⟩
   .have z2:t=n18':=by have:=of_decide_eq_false z2; omega
    subst z2
    rw [bit_congr (f':=fun u=>F u||fsY t Y (r[i]).pos u) fun u hu=>by rw [decide_eq_true (by omega),Bool.true_and]] at w
    have rn:=s'.ldN (i:=(r[i]).pos.toNat) (by omega)
    rw [ep] at rn
    refine ⟨⟨s0,hp⟩,nb,0,rfl,_,rn,fun q=>?_,fun q=>?_⟩
    .have q:nlY Y (r[i]).pos=false:=by unfold nlY; cases e:Y (r[i]).pos 0<;>rw [e] at q<;>first | rfl | cases q
     rw [q] at hF h2
     exact fin _ _ _ w hF h2
    .have q:nlY Y (r[i]).pos=true:=by unfold nlY; cases e:Y (r[i]).pos 0<;>rw [e] at q<;>first | rfl | cases q
     rw [q] at hF h2
     rw [hi1]
     refine ⟨r.length-(i+1),by omega,rfl,rfl,rfl,rfl,rfl,rfl,rfl,rfl,rfl,i+1,_,rfl,by omega,rfl,w,fun u u0 u1=>?_,h2⟩
     rw [<- hF u u0 u1,Bool.or_assoc]; rfl
 .have z:i=r.length:=by have:=of_decide_eq_false z; omega
  subst z
  rw [List.drop_length] at hF h2
  exact fin F true H20 w (fun t t0 t1=>by rw [<- hF t t0 t1]; exact (Bool.or_false _).symm) h2
end
end Va
end Go.Proofs.Ytefiipkfppaibaa
namespace Go.Ew
open Go.Ev Go.Deep
section
variable {ι : Type} {Z H : KH} {D : ι -> Prop} {nm : ι -> Nat} {cs : ι -> List Value}
theorem Bxs.max (h:Bxs Z H D nm cs):∃ Z',Le Z Z'/\Bxs Z' H D nm cs/\∀ k e,H k=some e->(∀ i,D i->nm i≠k)->Z' k=some e:=by
 classical
 refine ⟨fun k=>if ∃ i,D i/\nm i=k then none else H k,fun k e q=>?_,⟨fun k e q=>?_,fun i hi=>?_,h.ok,h.inj⟩,fun k e q hn=>?_⟩
 .have:¬ ∃ i,D i/\nm i=k:=fun ⟨i,hi,hk⟩=>by
   have:=h.fr i hi
   rw [hk,q] at this; cases this
  exact (if_neg this).trans (h.le k e q)
 .have q:(if ∃ i,D i/\nm i=k then none else H k)=some e:=q
  split at q
  .cases q
  .exact q
 .exact if_pos ⟨i,hi,rfl⟩
 .exact (if_neg fun ⟨i,hi,hk⟩=>hn i hi hk).trans q
theorem Bxs.less {Z0:KH} (h:Bxs Z H D nm cs) (hl:Le Z0 Z):Bxs Z0 H D nm cs:=⟨hl.trans h.le,fun i hi=>hl.none (h.fr i hi),h.ok,h.inj⟩
end
structure Rk (Z H:KH) (G:List Pr) (N M nb:Nat) (fb ob:Nat->Nat) (aF aO:OA) (Y0 Y:Int->Int->Bool) (b:Bool):Prop where
 s:RefS Z H N M nb fb ob aF aO Y
 i:InN N Y (2*M+2)
 d:Snd3 G M Y
 t:Stp Y0 Y b
section
variable {Z H : KH} {G : List Pr} {N M nb : Nat} {fb ob : Nat -> Nat} {aF aO : OA} {Y0 Y : Int -> Int -> Bool} {b : Bool}
theorem Rk.up {H':KH} (h:Rk Z H G N M nb fb ob aF aO Y0 Y b) (hl:Le H H'):Rk Z H' G N M nb fb ob aF aO Y0 Y b:=⟨h.s.up hl,h.i,h.d,h.t⟩
theorem Rk.set {H':KH} {x c:Int} (h:Rk Z H G N M nb fb ob aF aO Y0 Y b) (s:RefS Z H' N M nb fb ob aF aO (Up1 Y x c)) (hx:0<=x/\x<N) (hc:0<=c/\c<2*M+2) (hd:Snd3 G M (Up1 Y x c)) (hn:Y x c=false):Rk Z H' G N M nb fb ob aF aO Y0 (Up1 Y x c) true :=
 ⟨s,up_in h.i hx fun t q=>by have:=of_decide_eq_true q; rw [this]; exact ⟨hc.1,by have:=hc.2; omega⟩,hd,h.t.add (fun _=>.inr ⟨c,decide_eq_true rfl,hn⟩) fun q=>by cases q⟩
theorem Snd3.setN (h:Snd3 G M Y) {x:Int} (hx:Nul G x):Snd3 G M (Up1 Y x 0):=by
 refine ⟨fun y q=>?_,fun y t q=>?_,fun y t q=>?_⟩
 .by_cases e:y=x
  .rw [e]; exact hx
  .unfold nlY at q; rw [up1_ne (.inl e)] at q; exact h.n y q
 .simp only [fsY,Bool.and_eq_true,decide_eq_true_eq] at q
  rw [up1_ne (.inr (by omega))] at q
  exact h.f y t (by rw [fsY_at q.1.1 q.1.2]; exact q.2)
 .simp only [flY,Bool.and_eq_true,decide_eq_true_eq] at q
  rw [up1_ne (.inr (by omega))] at q
  exact h.o y t (by rw [flY_at q.1.1 q.1.2]; exact q.2)
theorem Snd3.setF (h:Snd3 G M Y) {x:Int} {t:Nat} (ht:t<M) (hx:Fst G x t):Snd3 G M (Up1 Y x (1+(t:Int))):=by
 refine ⟨fun y q=>?_,fun y s q=>?_,fun y s q=>?_⟩
 .unfold nlY at q; rw [up1_ne (.inr (by omega))] at q; exact h.n y q
 .simp only [fsY,Bool.and_eq_true,decide_eq_true_eq] at q
  by_cases e:y=x/\s=t
  .rw [e.1,e.2]; exact hx
  .rw [up1_ne (by by_cases e1:y=x; exact .inr (by omega); exact .inl e1)] at q
   exact h.f y s (by rw [fsY_at q.1.1 q.1.2]; exact q.2)
 .simp only [flY,Bool.and_eq_true,decide_eq_true_eq] at q
  rw [up1_ne (.inr (by omega))] at q
  exact h.o y s (by rw [flY_at q.1.1 q.1.2]; exact q.2)
theorem Snd3.setO (h:Snd3 G M Y) {x:Int} {t:Nat} (ht:t<M+1) (hx:Flw G M x t):Snd3 G M (Up1 Y x (1+(M:Int)+(t:Int))):=by
 refine ⟨fun y q=>?_,fun y s q=>?_,fun y s q=>?_⟩
 .unfold nlY at q; rw [up1_ne (.inr (by omega))] at q; exact h.n y q
 .simp only [fsY,Bool.and_eq_true,decide_eq_true_eq] at q
  rw [up1_ne (.inr (by omega))] at q
  exact h.f y s (by rw [fsY_at q.1.1 q.1.2]; exact q.2)
 .simp only [flY,Bool.and_eq_true,decide_eq_true_eq] at q
  by_cases e:y=x/\s=t
  .rw [e.1,e.2]; exact hx
  .rw [up1_ne (by by_cases e1:y=x; exact .inr (by omega); exact .inl e1)] at q
   exact h.o y s (by rw [flY_at q.1.1 q.1.2]; exact q.2)
theorem Rk.row {rb n:Nat} {cs:List Value} {H0:KH} (h:Rk Z H G N M nb fb ob aF aO Y0 Y b) (h0:RefS Z H0 N M nb fb ob aF aO Y) (hn:H0 rb=none) (hk:kold H 1 (some ⟨rb,0,none⟩) n=some cs):∃ Z',Le Z Z'/\Rk Z' H G N M nb fb ob aF aO Y0 Y b/\kold Z' 1 (some ⟨rb,0,none⟩) n=some cs:=by
 obtain ⟨Z',l,w,q⟩:=h.s.b.max
 refine ⟨Z',l,⟨⟨w,l.kold h.s.hf,l.kold h.s.ho⟩,h.i,h.d,h.t⟩,?_⟩
 obtain ⟨e,k1,k2⟩:=kold_some.1 hk
 exact kold_some.2 ⟨e,q _ _ k1 (fun i hi e'=>by
  obtain ⟨e2,k3,_⟩:=h0.b.ok i hi
  rw [e',hn] at k3; cases k3),k2⟩
theorem Rk.less {Z0:KH} (h:Rk Z H G N M nb fb ob aF aO Y0 Y b) (hl:Le Z0 Z) (hf:kold Z0 1 aF N=some (famC (hdrC M fb) N)) (ho:kold Z0 1 aO N=some (famC (hdrC (M+1) ob) N)):Rk Z0 H G N M nb fb ob aF aO Y0 Y b:=⟨⟨h.s.b.less hl,hf,ho⟩,h.i,h.d,h.t⟩
end
theorem ofK_in {M:Nat} {Y:Int->Int->Bool} {N:Nat} {r:List Sy} (hs:SymsIn M N r):∀ t,(ofK (nlY Y) (fsY M Y) r).1 t=true->0<=t/\t<M :=
 ofK_mem (B:=fun t=>0<=t/\t<M) (fun x t q=>by simp only [fsY,Bool.and_eq_true,decide_eq_true_eq] at q; exact q.1) fun s h q=>⟨(hs s h).1,(hs s h).2.1 q⟩
def ClsK (M:Nat) (Y:Int->Int->Bool) (p:Pr) (k:Nat) (h:k<p.right.length):Prop:=∀ t,((ofK (nlY Y) (fsY M Y) (p.right.drop (k+1))).1 t||((ofK (nlY Y) (fsY M Y) (p.right.drop (k+1))).2&&flY M Y p.left t))=true->flY M Y p.right[k].pos t=true
end Go.Ew
namespace Go.Proofs.Ytefiipkfppaibaa
open Go.Ev Go.Ew
namespace Va
section
variable (ok : EnvOk (env Try.prog))
include ok
theorem c30 {Z H:KH} {g:Gm} {nb cF cO j k:Nat} {fb ob:Nat->Nat} {aF aO:OA} {Y0 Y:Int->Int->Bool} {b0:Bool} {Q:PQ} (w:Rk Z H g.prods g.nts.length g.toks.length nb fb ob aF aO Y0 Y b0) (hg:GI Z g) (hm:MayG g) (hj:j<g.prods.length) (hk:k<g.prods[j].right.length) (hnt:(g.prods[j].right[k]).tok=false)
 (hq:∀ H' Y' m,Rk Z H' g.prods g.nts.length g.toks.length nb fb ob aF aO Y0 Y' (b0||m)->(m=false->Y'=Y/\ClsK g.toks.length Y g.prods[j] k hk)->Q (.bool m) H') :
 Does (env Try.prog) 30 [.agg #[.slice (some ⟨nb,0,none⟩) g.nts.length g.nts.length,.slice aF g.nts.length cF,.slice aO g.nts.length cO],gv g,.agg #[.int .i64 g.prods[j].left,.slice g.prods[j].ra g.prods[j].right.length g.prods[j].rc,.slice g.prods[j].ua g.prods[j].un g.prods[j].uc],.int .i64 ((k:Nat):Int)] H Q:=by
 have hpo:=hm.pr j hj
 have hri:=hg.pi j hj
 have hsy:=SymsIn.of hm hj
 have hmem:g.prods[j]∈g.prods:=List.getElem_mem hj
 generalize hx:g.prods[j]=x at *
 have hT:=hm.t
 have hN:=hm.n
 have hk1:IntKind.wrap .i64 (((k:Nat):Int)+1)=((k+1:Nat):Int):=by have:=hpo.b; rw [wrap64 (by omega) (by omega)]; omega
 obtain ⟨a',c',k1,k2⟩:=(hri.2.up w.s.b.le).cut (k+1) (by omega)
 have hdl:x.right.length-(k+1)=(x.right.drop (k+1)).length:=by rw [List.length_drop]
 rw [hdl] at k2
 have hsd:=hsy.drop (k+1)
 obtain ⟨s0,s1,s2⟩:=hsy _ (List.getElem_mem hk)
 have hp:=s2 hnt
 refine fn30 ok ⟨trivial,a',_,c',by rw [hk1]; exact k1,?_⟩
 rw [hdl]
 refine c19 ok w.s k2 hsd hT.2 (by rw [List.length_drop]; have:=hpo.b; omega) fun rb H5 l5 hrb kr=>⟨some ⟨rb,0,none⟩,_,_,_,rfl,trivial,trivial,⟨by omega,by omega⟩,?_⟩
 obtain ⟨Z',lZ,w',kr⟩:=(w.up l5).row w.s hrb kr
 have ek:Int.toNat ((k:Nat):Int)=k:=by omega
 obtain ⟨b1,o1,ha1,r1⟩:=sy_ld (w'.s.b.le.kold (lZ.kold hri.1)) hk
 have ep:(((x.right[k]).pos.toNat:Nat):Int)=(x.right[k]).pos:=by omega
 obtain ⟨b2,o2,ha2,r2⟩:=w'.s.hdO (i:=(x.right[k]).pos.toNat) (by omega)
 rw [ek]
 refine ⟨b1,o1,ha1,rfl,_,ldSub (m:=1) r1 1 (by simp),⟨s0,hp⟩,b2,o2,ha2,_,_,_,r2,?_⟩
 generalize hf:(ofK (nlY Y) (fsY g.toks.length Y) (x.right.drop (k+1))).1=f at *
 generalize hnu:(ofK (nlY Y) (fsY g.toks.length Y) (x.right.drop (k+1))).2=nu at *
 obtain ⟨v1,v2⟩:=ofK_sound w.d.n w.d.f (x.right.drop (k+1))
 rw [hf] at v2
 rw [hnu] at v1
 have fin:=ofK_in (Y:=Y) hsd
 rw [hf] at fin
 unfold vc30_L1
 refine ⟨fun kk a4 n5 n6 a7 n8 n9 a10 n11 n12 x13 a14 n15 n16 a17 n18 n19 b20 a21 n22 n23 b24 a25 n26 n27 x28 H29=>aO=a10/\g.nts.length=n11/\x.left=x13/\some ⟨rb,0,none⟩=a21/\g.toks.length=n22/\nu=b24/\some ⟨ob (x.right[k]).pos.toNat,0,none⟩=a25/\g.toks.length+1=n26/\∃ (t:Nat) (Yt:Int->Int->Bool),x28=t/\t<=g.toks.length+1/\kk=g.toks.length+1-t/\Rk Z' H29 g.prods g.nts.length g.toks.length nb fb ob aF aO Y0 Yt (b0||b20)/\(b20=false->Yt=Y/\∀ u:Nat,u<t->(f (u:Int)||(nu&&flY g.toks.length Y x.left u))=true->flY g.toks.length Y (x.right[k]).pos u=true),⟨g.toks.length+1,rfl,rfl,rfl,rfl,rfl,rfl,rfl,rfl,0,Y,rfl,by omega,rfl,by rw [Bool.or_false]; exact w',fun _=>⟨rfl,fun u hu=>absurd hu (by omega)⟩⟩,?_⟩
 rintro kk a4 n5 n6 a7 n8 n9 a10 n11 n12 x13 a14 n15 n16 a17 n18 n19 b20 a21 n22 n23 b24 a25 n26 n27 x28 H29 ⟨rfl,rfl,rfl,rfl,rfl,rfl,rfl,rfl,t,Yt,rfl,ht,rfl,w2,hc⟩
 have lo:x.left=((x.left.toNat:Nat):Int):=by have:=hpo.a; omega
 refine ⟨fun z=>?_,fun z=>?_⟩
 .have z:t<g.toks.length+1:=by have:=of_decide_eq_true z; omega
  have et:Int.toNat ((t:Nat):Int)=t:=by omega
  have ht1:IntKind.wrap .i64 (((t:Nat):Int)+1)=((t+1:Nat):Int):=by rw [wrap64 (by omega) (by omega)]; omega
  have r3:=w2.s.ldO (i:=(x.right[k]).pos.toNat) (t:=t) (by omega) z
  have r3':=w2.s.setO (i:=(x.right[k]).pos.toNat) (t:=t) (by omega) z
  rw [ep] at r3 r3'
  have bt:0<=((t:Nat):Int)/\((t:Nat):Int)<((g.toks.length+1:Nat):Int):=⟨by omega,by omega⟩
  -- nothing comes
  have stay:(b20=false->(f (t:Int)||(nu&&flY g.toks.length Y x.left t))=true->flY g.toks.length Y (x.right[k]).pos t=true)->∃ n',n'<g.toks.length+1-t/\(aO=aO/\g.nts.length=g.nts.length/\x.left=x.left/\(some ⟨rb,0,none⟩:OA)=some ⟨rb,0,none⟩/\g.toks.length=g.toks.length/\nu=nu/\(some ⟨ob (x.right[k]).pos.toNat,0,none⟩:OA)=some ⟨ob (x.right[k]).pos.toNat,0,none⟩/\g.toks.length+1=g.toks.length+1/\∃ (t':Nat) (Yt:Int->Int->Bool),((t+1:Nat):Int)=t'/\t'<=g.toks.length+1/\n'=g.toks.length+1-t'/\Rk Z' H29 g.prods g.nts.length g.toks.length nb fb ob aF aO Y0 Yt (b0||b20)/\(b20=false->Yt=Y/\∀ u:Nat,u<t'->(f (u:Int)||(nu&&flY g.toks.length Y x.left u))=true->flY g.toks.length Y (x.right[k]).pos u=true)):=fun h=>⟨g.toks.length+1-(t+1),by omega,rfl,rfl,rfl,rfl,rfl,rfl,rfl,rfl,t+1,Yt,rfl,by omega,rfl,w2,fun q=>⟨(hc q).1,fun u hu=>by
   by_cases e:u=t
   .subst e; exact h q
   .exact (hc q).2 u (by omega)⟩⟩
  -- one more
  have more:Yt (x.right[k]).pos (1+(g.toks.length:Int)+t)=false->Flw g.prods g.toks.length (x.right[k]).pos t->∃ n',n'<g.toks.length+1-t/\(aO=aO/\g.nts.length=g.nts.length/\x.left=x.left/\(some ⟨rb,0,none⟩:OA)=some ⟨rb,0,none⟩/\g.toks.length=g.toks.length/\nu=nu/\(some ⟨ob (x.right[k]).pos.toNat,0,none⟩:OA)=some ⟨ob (x.right[k]).pos.toNat,0,none⟩/\g.toks.length+1=g.toks.length+1/\∃ (t':Nat) (Yt:Int->Int->Bool),((t+1:Nat):Int)=t'/\t'<=g.toks.length+1/\n'=g.toks.length+1-t'/\Rk Z' (H29.put ⟨ob (x.right[k]).pos.toNat,0+t*1,none⟩ [.bool true]) g.prods g.nts.length g.toks.length nb fb ob aF aO Y0 Yt (b0||true)/\((true:Bool)=false->Yt=Y/\∀ u:Nat,u<t'->(f (u:Int)||(nu&&flY g.toks.length Y x.left u))=true->flY g.toks.length Y (x.right[k]).pos u=true)):=fun h1 h2=>⟨g.toks.length+1-(t+1),by omega,rfl,rfl,rfl,rfl,rfl,rfl,rfl,rfl,t+1,_,rfl,by omega,rfl,by
   rw [Bool.or_true]
   exact w2.set r3' ⟨s0,hp⟩ ⟨by omega,by omega⟩ (w2.d.setO z h2) h1,fun q=>by cases q⟩
  have hmay:=Bxs.may w2.s.b (j:=.o (x.right[k]).pos.toNat) (show _<_ by omega)
  have flt:flY g.toks.length Yt x.left t=Yt x.left (1+(g.toks.length:Int)+t):=flY_at (by omega) (by omega)
  have null:nu=true->∃ b3 o3,aO=some ⟨b3,o3,none⟩/\ld H29 ⟨b3,o3+x.left.toNat*1,none⟩ [.slice (some ⟨ob x.left.toNat,0,none⟩) (g.toks.length+1) (g.toks.length+1)]/\ld H29 ⟨ob x.left.toNat,0+t*1,none⟩ [.bool (Yt x.left (1+(g.toks.length:Int)+t))]:=fun _=>by
   obtain ⟨b3,o3,ha3,r4⟩:=w2.s.hdO (i:=x.left.toNat) (by have:=hpo.a; omega)
   have r5:=w2.s.ldO (i:=x.left.toNat) (t:=t) (by have:=hpo.a; omega) z
   rw [<- lo] at r5
   exact ⟨b3,o3,ha3,r4,r5⟩
  have byNull:nu=true->Yt x.left (1+(g.toks.length:Int)+t)=true->Flw g.prods g.toks.length (x.right[k]).pos t:=fun q1 q2=>.nul x hmem _ _ _ _ (parts_at hk) hnt (v1 q1) (w2.d.o _ _ (by rw [flt]; exact q2))
  rw [et,ht1]
  refine ⟨bt,_,0,rfl,_,r3,fun q=>?_,fun q=>?_⟩
  .have q:Yt (x.right[k]).pos (1+(g.toks.length:Int)+t)=false:=by cases e:Yt (x.right[k]).pos (1+(g.toks.length:Int)+t)<;>rw [e] at q<;>first | rfl | cases q
   refine ⟨fun z1=>?_,fun z1=>?_⟩
   .have z1:t<g.toks.length:=by have:=of_decide_eq_true z1; omega
    obtain ⟨b6,o6,ha6,r6⟩:=bit_ld (w2.s.b.le.kold kr) z1
    refine ⟨⟨by omega,by omega⟩,b6,o6,ha6,_,r6,fun q6=>?_,fun q6=>⟨fun qn=>?_,fun qn=>?_⟩⟩
    .exact ⟨bt,_,0,rfl,⟨[.bool (Yt (x.right[k]).pos (1+(g.toks.length:Int)+t))],rfl,r3⟩,hmay,more q (.fst x hmem _ _ _ _ (parts_at hk) hnt (v2 _ q6))⟩
    .obtain ⟨b3,o3,ha3,r4,r5⟩:=null qn
     refine ⟨hpo.a,b3,o3,ha3,_,_,_,r4,bt,_,0,rfl,_,r5,fun q7=>?_,fun q7=>?_⟩
     .exact ⟨bt,_,0,rfl,⟨[.bool (Yt (x.right[k]).pos (1+(g.toks.length:Int)+t))],rfl,r3⟩,hmay,more q (byNull qn q7)⟩
     .exact stay fun qb qq=>by
       rw [<- (hc qb).1,flt,q7,q6] at qq
       simp at qq
    .exact stay fun qb qq=>by
      rw [q6,qn] at qq
      simp at qq
   .have z1:¬ t<g.toks.length:=by have:=of_decide_eq_false z1; omega
    have q6:f (t:Int)=false:=by
     cases e:f (t:Int)
     .rfl
     .have:=fin _ e; omega
    refine ⟨fun qn=>?_,fun qn=>?_⟩
    .obtain ⟨b3,o3,ha3,r4,r5⟩:=null qn
     refine ⟨hpo.a,b3,o3,ha3,_,_,_,r4,bt,_,0,rfl,_,r5,fun q7=>?_,fun q7=>?_⟩
     .exact ⟨bt,_,0,rfl,⟨[.bool (Yt (x.right[k]).pos (1+(g.toks.length:Int)+t))],rfl,r3⟩,hmay,more q (byNull qn q7)⟩
     .exact stay fun qb qq=>by
       rw [<- (hc qb).1,flt,q7,q6] at qq
       simp at qq
    .exact stay fun qb qq=>by
      rw [q6,qn] at qq
      simp at qq
  .have q:Yt (x.right[k]).pos (1+(g.toks.length:Int)+t)=true:=by cases e:Yt (x.right[k]).pos (1+(g.toks.length:Int)+t)<;>rw [e] at q<;>first | rfl | cases q
   exact stay fun qb _=>by rw [<- (hc qb).1,flY_at (by omega) (by omega)]; exact q
 .have z:t=g.toks.length+1:=by have:=of_decide_eq_false z; omega
  subst z
  refine hq H29 Yt b20 (w2.less lZ w.s.hf w.s.ho) fun qb=>⟨(hc qb).1,fun u hu=>?_⟩
  rw [hf,hnu] at hu
  have hur:0<=u/\u<g.toks.length+1:=by
   rw [Bool.or_eq_true,Bool.and_eq_true] at hu
   rcases hu with hu | ⟨_,hu⟩
   .have:=fin _ hu; omega
   .simp only [flY,Bool.and_eq_true,decide_eq_true_eq] at hu; exact hu.1
  have eu:((u.toNat:Nat):Int)=u:=by omega
  have:=(hc qb).2 u.toNat (by omega)
  rw [eu] at this
  exact this hu
end
end Va
end Go.Proofs.Ytefiipkfppaibaa
namespace Go.Ew
open Go.Ev Go.Deep
structure Cls2 (M:Nat) (Y:Int->Int->Bool) (p:Pr):Prop where
 n:(ofK (nlY Y) (fsY M Y) p.right).2=true->nlY Y p.left=true
 f:∀ t,(ofK (nlY Y) (fsY M Y) p.right).1 t=true->fsY M Y p.left t=true
theorem clsP_of {M:Nat} {Y:Int->Int->Bool} {p:Pr} (h:∀ k (hk:k<p.right.length),(p.right[k]).tok=false->ClsK M Y p k hk):ClsP (nlY Y) (fsY M Y) (flY M Y) p:=by
 refine ClsAt.all fun m hm _ ht t q=>h m hm ht t q
end Go.Ew
namespace Go.Proofs.Ytefiipkfppaibaa
open Go.Ev Go.Ew
namespace Va
section
variable (ok : EnvOk (env Try.prog))
include ok
section
variable {g : Gm} {nb cF cO i : Nat} {fb ob : Nat -> Nat} {aF aO : OA} {Y0 : Int -> Int -> Bool} {z1 z4 z7 : OA} {z2 z3 z5 z6 z8 z9 : Nat}
theorem l12c {Z H:KH} {Y:Int->Int->Bool} {b:Bool} {n:Nat} {J:(Nat->(OA->(Nat->(Nat->(OA->(Nat->(Nat->(OA->(Nat->(Nat->(OA->(Nat->(Nat->(OA->(Nat->(Nat->(OA->(Nat->(Nat->(OA->(Nat->(Nat->(OA->(Nat->(Nat->(OA->(Nat->(Nat->(Bool->(Int->(KH->Prop)))))))))))))))))))))))))))))))} (hg:GI Z g) (hm:MayG g) (hi:i<g.prods.length) (w:Rk Z H g.prods g.nts.length g.toks.length nb fb ob aF aO Y0 Y b)
 (hJ:∀ H' Y' b',Rk Z H' g.prods g.nts.length g.toks.length nb fb ob aF aO Y0 Y' b'->(b'=false->b=false/\ClsP (nlY Y0) (fsY g.toks.length Y0) (flY g.toks.length Y0) g.prods[i])->∃ m,m<n/\J m g.ta g.toks.length g.tc g.na g.nts.length g.nc g.pa g.prods.length g.pc z1 z2 z3 z4 z5 z6 z7 z8 z9 (some ⟨nb,0,none⟩) g.nts.length g.nts.length aF g.nts.length cF aO g.nts.length cO b' ((i+1:Nat):Int) H') :
 vc12_L3 g.ta g.toks.length g.tc g.na g.nts.length g.nc g.pa g.prods.length g.pc z1 z2 z3 z4 z5 z6 z7 z8 z9 (some ⟨nb,0,none⟩) g.nts.length g.nts.length aF g.nts.length cF aO g.nts.length cO b ((i:Nat):Int) g.prods[i].left g.prods[i].ra g.prods[i].right.length g.prods[i].rc g.prods[i].ua g.prods[i].un g.prods[i].uc H n J:=by
 have hpo:=hm.pr i hi
 have hri:=hg.pi i hi
 have hsy:=SymsIn.of hm hi
 unfold vc12_L3
 refine ⟨fun k a4 n5 n6 a7 n8 n9 a10 n11 n12 a13 n14 n15 a16 n17 n18 a19 n20 n21 a22 n23 n24 a25 n26 n27 a28 n29 n30 b31 x32 x33 a34 n35 n36 a37 n38 n39 x40 H41=>(g.ta=a4/\g.toks.length=n5/\g.tc=n6/\g.na=a7/\g.nts.length=n8/\g.nc=n9/\g.pa=a10/\g.prods.length=n11/\g.pc=n12/\z1=a13/\z2=n14/\z3=n15/\z4=a16/\z5=n17/\z6=n18/\z7=a19/\z8=n20/\z9=n21/\some ⟨nb,0,none⟩=a22/\g.nts.length=n23/\g.nts.length=n24/\aF=a25/\g.nts.length=n26/\cF=n27/\aO=a28/\g.nts.length=n29/\cO=n30)/\((i:Nat):Int)=x32/\g.prods[i].left=x33/\g.prods[i].ra=a34/\g.prods[i].right.length=n35/\g.prods[i].rc=n36/\g.prods[i].ua=a37/\g.prods[i].un=n38/\g.prods[i].uc=n39/\∃ (t:Nat) (Yt:Int->Int->Bool),x40=t/\t<=g.prods[i].right.length/\k=g.prods[i].right.length-t/\Rk Z H41 g.prods g.nts.length g.toks.length nb fb ob aF aO Y0 Yt b31/\(b31=false->b=false/\∀ u (hu:u<g.prods[i].right.length),u<t->(g.prods[i].right[u]).tok=false->ClsK g.toks.length Y0 g.prods[i] u hu),⟨g.prods[i].right.length,⟨rfl,rfl,rfl,rfl,rfl,rfl,rfl,rfl,rfl,rfl,rfl,rfl,rfl,rfl,rfl,rfl,rfl,rfl,rfl,rfl,rfl,rfl,rfl,rfl,rfl,rfl,rfl⟩,rfl,rfl,rfl,rfl,rfl,rfl,rfl,rfl,0,Y,rfl,by omega,rfl,w,fun q=>⟨q,fun u _ y=>absurd y (by omega)⟩⟩,?_⟩
 rintro k a4 n5 n6 a7 n8 n9 a10 n11 n12 a13 n14 n15 a16 n17 n18 a19 n20 n21 a22 n23 n24 a25 n26 n27 a28 n29 n30 b31 x32 x33 a34 n35 n36 a37 n38 n39 x40 H41 ⟨⟨rfl,rfl,rfl,rfl,rfl,rfl,rfl,rfl,rfl,rfl,rfl,rfl,rfl,rfl,rfl,rfl,rfl,rfl,rfl,rfl,rfl,rfl,rfl,rfl,rfl,rfl,rfl⟩,rfl,rfl,rfl,rfl,rfl,rfl,rfl,rfl,t,Yt,rfl,ht,rfl,w,hc⟩
 refine ⟨fun z=>?_,fun z=>?_⟩
 .have z:t<g.prods[i].right.length:=by have:=of_decide_eq_true z; omega
  have et:Int.toNat ((t:Nat):Int)=t:=by omega
  have ht1:IntKind.wrap .i64 (((t:Nat):Int)+1)=((t+1:Nat):Int):=by have:=hpo.b; rw [wrap64 (by omega) (by omega)]; omega
  obtain ⟨b1,o1,ha1,r1⟩:=sy_ld (w.s.b.le.kold hri.1) z
  rw [et]
  refine ⟨⟨by omega,by omega⟩,b1,o1,ha1,rfl,_,ldSub (m:=1) r1 0 (by simp),fun q=>?_,fun q=>?_⟩
  .have q:(g.prods[i].right[t]).tok=false:=by cases e:(g.prods[i].right[t]).tok<;>rw [e] at q<;>first | rfl | cases q
   refine c30 ok w hg hm hi z q fun H5 Y' m w' hm'=>⟨m,rfl,fun y=>?_,fun y=>?_⟩
   .subst y
    rw [ht1]
    exact ⟨g.prods[i].right.length-(t+1),by omega,⟨rfl,rfl,rfl,rfl,rfl,rfl,rfl,rfl,rfl,rfl,rfl,rfl,rfl,rfl,rfl,rfl,rfl,rfl,rfl,rfl,rfl,rfl,rfl,rfl,rfl,rfl,rfl⟩,rfl,rfl,rfl,rfl,rfl,rfl,rfl,rfl,t+1,Y',rfl,by omega,rfl,by rw [Bool.or_true] at w'; exact w',fun q=>by cases q⟩
   .subst y
    rw [Bool.or_false] at w'
    rw [ht1]
    refine ⟨g.prods[i].right.length-(t+1),by omega,⟨rfl,rfl,rfl,rfl,rfl,rfl,rfl,rfl,rfl,rfl,rfl,rfl,rfl,rfl,rfl,rfl,rfl,rfl,rfl,rfl,rfl,rfl,rfl,rfl,rfl,rfl,rfl⟩,rfl,rfl,rfl,rfl,rfl,rfl,rfl,rfl,t+1,Y',rfl,by omega,rfl,w',fun qb=>⟨(hc qb).1,fun u hu hut hutk=>?_⟩⟩
    by_cases e:u=t
    .subst e
     have:=(hm' rfl).2
     rw [w.t.no qb] at this
     exact this
    .exact (hc qb).2 u hu (by omega) hutk
  .have q:(g.prods[i].right[t]).tok=true:=by cases e:(g.prods[i].right[t]).tok<;>rw [e] at q<;>first | rfl | cases q
   rw [ht1]
   refine ⟨g.prods[i].right.length-(t+1),by omega,⟨rfl,rfl,rfl,rfl,rfl,rfl,rfl,rfl,rfl,rfl,rfl,rfl,rfl,rfl,rfl,rfl,rfl,rfl,rfl,rfl,rfl,rfl,rfl,rfl,rfl,rfl,rfl⟩,rfl,rfl,rfl,rfl,rfl,rfl,rfl,rfl,t+1,Yt,rfl,by omega,rfl,w,fun qb=>⟨(hc qb).1,fun u hu hut hutk=>?_⟩⟩
   by_cases e:u=t
   .subst e; rw [q] at hutk; cases hutk
   .exact (hc qb).2 u hu (by omega) hutk
 .have z:t=g.prods[i].right.length:=by have:=of_decide_eq_false z; omega
  subst z
  have hi1:IntKind.wrap .i64 (((i:Nat):Int)+1)=((i+1:Nat):Int):=by have:=hm.p; rw [wrap64 (by omega) (by omega)]; omega
  rw [hi1]
  exact hJ H41 Yt b31 w fun qb=>⟨(hc qb).1,clsP_of fun u hu hut=>(hc qb).2 u hu hu hut⟩
omit ok in
theorem l12J {Z H:KH} {Y:Int->Int->Bool} {b:Bool} {n rb t x42:Nat} {f:Int->Bool} {x35:Int} {a36 a39:OA} {n37 n38 n40 n41:Nat} {J:(Nat->(OA->(Nat->(Nat->(OA->(Nat->(Nat->(OA->(Nat->(Nat->(OA->(Nat->(Nat->(OA->(Nat->(Nat->(OA->(Nat->(Nat->(OA->(Nat->(Nat->(OA->(Nat->(Nat->(OA->(Nat->(Nat->(Bool->(Int->(Int->(OA->(Nat->(Nat->(OA->(Nat->(Nat->(OA->(Nat->(Nat->(Int->(KH->Prop))))))))))))))))))))))))))))))))))))))))))} (hm:MayG g) (hi:i<g.prods.length) (w:Rk Z H g.prods g.nts.length g.toks.length nb fb ob aF aO Y0 Y b) (kr:kold H 1 (some ⟨rb,0,none⟩) g.toks.length=some (famC (bit1 f) g.toks.length)) (hf:∀ t,f t=true->Fst g.prods g.prods[i].left t) (ht:t<g.toks.length)
 (hJ:∀ H' Y' b',Rk Z H' g.prods g.nts.length g.toks.length nb fb ob aF aO Y0 Y' b'->(b'=false->b=false/\(f (t:Int)=true->fsY g.toks.length Y g.prods[i].left t=true))->∃ m,m<n/\J m g.ta g.toks.length g.tc g.na g.nts.length g.nc g.pa g.prods.length g.pc z1 z2 z3 z4 z5 z6 z7 z8 z9 (some ⟨nb,0,none⟩) g.nts.length g.nts.length aF g.nts.length cF aO g.nts.length cO b' x35 g.prods[i].left a36 n37 n38 a39 n40 n41 (some ⟨rb,0,none⟩) g.toks.length x42 ((t+1:Nat):Int) H') :
 vc12_J1 ((t:Nat):Int) g.toks.length (some ⟨rb,0,none⟩) H g.prods[i].left g.nts.length aF n J g.ta g.toks.length g.tc g.na g.nts.length g.nc g.pa g.prods.length g.pc z1 z2 z3 z4 z5 z6 z7 z8 z9 (some ⟨nb,0,none⟩) g.nts.length g.nts.length cF aO g.nts.length cO x35 a36 n37 n38 a39 n40 n41 x42 b:=by
 have hpo:=hm.pr i hi
 have hT:=hm.t
 have et:Int.toNat ((t:Nat):Int)=t:=by omega
 have ht1:IntKind.wrap .i64 (((t:Nat):Int)+1)=((t+1:Nat):Int):=by rw [wrap64 (by omega) (by omega)]; omega
 have lo:((g.prods[i].left.toNat:Nat):Int)=g.prods[i].left:=by have:=hpo.a; omega
 have bt:0<=((t:Nat):Int)/\((t:Nat):Int)<g.toks.length:=⟨by omega,by omega⟩
 obtain ⟨b1,o1,ha1,r1⟩:=bit_ld kr ht
 obtain ⟨b2,o2,ha2,r2⟩:=w.s.hdF (i:=g.prods[i].left.toNat) (by have:=hpo.a; omega)
 have r3:=w.s.ldF (i:=g.prods[i].left.toNat) (t:=t) (by have:=hpo.a; omega) ht
 have r4:=w.s.setF (i:=g.prods[i].left.toNat) (t:=t) (by have:=hpo.a; omega) ht
 rw [lo] at r3 r4
 have fst:fsY g.toks.length Y g.prods[i].left t=Y g.prods[i].left (1+(t:Int)):=fsY_at (by omega) (by omega)
 unfold vc12_J1
 rw [et,ht1]
 refine ⟨bt,b1,o1,ha1,_,r1,fun q=>⟨hpo.a,b2,o2,ha2,_,_,_,r2,bt,_,0,rfl,_,r3,fun q2=>?_,fun q2=>?_⟩,fun q=>?_⟩
 .have q2:Y g.prods[i].left (1+(t:Int))=false:=by cases e:Y g.prods[i].left (1+(t:Int))<;>rw [e] at q2<;>first | rfl | cases q2
  exact ⟨hpo.a,b2,o2,ha2,_,_,_,r2,bt,_,0,rfl,⟨[.bool (Y g.prods[i].left (1+(t:Int)))],rfl,r3⟩,Bxs.may w.s.b (j:=.f g.prods[i].left.toNat) (show _<_ by have:=hpo.a; omega),hJ _ _ true (w.set r4 hpo.a ⟨by omega,by omega⟩ (w.d.setF ht (hf _ q)) q2) fun q=>by cases q⟩
 .have q2:Y g.prods[i].left (1+(t:Int))=true:=by cases e:Y g.prods[i].left (1+(t:Int))<;>rw [e] at q2<;>first | rfl | cases q2
  exact hJ H Y b w fun qb=>⟨qb,fun _=>by rw [fst]; exact q2⟩
 .exact hJ H Y b w fun qb=>⟨qb,fun y=>by rw [q] at y; cases y⟩
theorem l12fL4 {Z H0 H:KH} {Y:Int->Int->Bool} {p q n rb:Nat} {f:Int->Bool} {J:(Nat->(OA->(Nat->(Nat->(OA->(Nat->(Nat->(OA->(Nat->(Nat->(OA->(Nat->(Nat->(OA->(Nat->(Nat->(OA->(Nat->(Nat->(OA->(Nat->(Nat->(OA->(Nat->(Nat->(OA->(Nat->(Nat->(Bool->(Int->(KH->Prop)))))))))))))))))))))))))))))))} (hg:GI Z g) (hm:MayG g) (hi:i<g.prods.length) (hK:H0.put ⟨p,q+(Int.toNat g.prods[i].left)*1,none⟩ [.bool true]=H) (w:Rk Z H g.prods g.nts.length g.toks.length nb fb ob aF aO Y0 Y true) (kr:kold Z 1 (some ⟨rb,0,none⟩) g.toks.length=some (famC (bit1 f) g.toks.length)) (hf:∀ t,f t=true->Fst g.prods g.prods[i].left t)
 (hJ:∀ H' Y' b',Rk Z H' g.prods g.nts.length g.toks.length nb fb ob aF aO Y0 Y' b'->(b'=false->true=false/\(∀ t,f t=true->fsY g.toks.length Y0 g.prods[i].left t=true)/\ClsP (nlY Y0) (fsY g.toks.length Y0) (flY g.toks.length Y0) g.prods[i])->∃ m,m<n/\J m g.ta g.toks.length g.tc g.na g.nts.length g.nc g.pa g.prods.length g.pc z1 z2 z3 z4 z5 z6 z7 z8 z9 (some ⟨nb,0,none⟩) g.nts.length g.nts.length aF g.nts.length cF aO g.nts.length cO b' ((i+1:Nat):Int) H') (hfin:∀ t,f t=true->0<=t/\t<g.toks.length) :
 vc12_L4 g.ta g.toks.length g.tc g.na g.nts.length g.nc g.pa g.prods.length g.pc z1 z2 z3 z4 z5 z6 z7 z8 z9 (some ⟨nb,0,none⟩) g.nts.length g.nts.length aF g.nts.length cF aO g.nts.length cO ((i:Nat):Int) g.prods[i].left g.prods[i].ra g.prods[i].right.length g.prods[i].rc g.prods[i].ua g.prods[i].un g.prods[i].uc (some ⟨rb,0,none⟩) g.toks.length g.toks.length H0 p q n J:=by
 have hT:=hm.t
 unfold vc12_L4
 rw [hK]
 refine ⟨fun k a4 n5 n6 a7 n8 n9 a10 n11 n12 a13 n14 n15 a16 n17 n18 a19 n20 n21 a22 n23 n24 a25 n26 n27 a28 n29 n30 b31 x32 x33 a34 n35 n36 a37 n38 n39 a40 n41 n42 x43 H44=>(g.ta=a4/\g.toks.length=n5/\g.tc=n6/\g.na=a7/\g.nts.length=n8/\g.nc=n9/\g.pa=a10/\g.prods.length=n11/\g.pc=n12/\z1=a13/\z2=n14/\z3=n15/\z4=a16/\z5=n17/\z6=n18/\z7=a19/\z8=n20/\z9=n21/\some ⟨nb,0,none⟩=a22/\g.nts.length=n23/\g.nts.length=n24/\aF=a25/\g.nts.length=n26/\cF=n27/\aO=a28/\g.nts.length=n29/\cO=n30)/\((i:Nat):Int)=x32/\g.prods[i].left=x33/\g.prods[i].ra=a34/\g.prods[i].right.length=n35/\g.prods[i].rc=n36/\g.prods[i].ua=a37/\g.prods[i].un=n38/\g.prods[i].uc=n39/\some ⟨rb,0,none⟩=a40/\g.toks.length=n41/\∃ (t:Nat) (Yt:Int->Int->Bool),x43=t/\t<=g.toks.length/\k=g.toks.length-t/\Rk Z H44 g.prods g.nts.length g.toks.length nb fb ob aF aO Y0 Yt b31/\(b31=false->true=false/\∀ u:Nat,u<t->f (u:Int)=true->fsY g.toks.length Y0 g.prods[i].left u=true),⟨g.toks.length,⟨rfl,rfl,rfl,rfl,rfl,rfl,rfl,rfl,rfl,rfl,rfl,rfl,rfl,rfl,rfl,rfl,rfl,rfl,rfl,rfl,rfl,rfl,rfl,rfl,rfl,rfl,rfl⟩,rfl,rfl,rfl,rfl,rfl,rfl,rfl,rfl,rfl,rfl,0,Y,rfl,by omega,rfl,w,fun q=>⟨q,fun u y=>absurd y (by omega)⟩⟩,?_⟩
 rintro k a4 n5 n6 a7 n8 n9 a10 n11 n12 a13 n14 n15 a16 n17 n18 a19 n20 n21 a22 n23 n24 a25 n26 n27 a28 n29 n30 b31 x32 x33 a34 n35 n36 a37 n38 n39 a40 n41 n42 x43 H44 ⟨⟨rfl,rfl,rfl,rfl,rfl,rfl,rfl,rfl,rfl,rfl,rfl,rfl,rfl,rfl,rfl,rfl,rfl,rfl,rfl,rfl,rfl,rfl,rfl,rfl,rfl,rfl,rfl⟩,rfl,rfl,rfl,rfl,rfl,rfl,rfl,rfl,rfl,rfl,t,Yt,rfl,ht,rfl,w,hc⟩
 refine ⟨fun z=>?_,fun z=>?_⟩
 .have z:t<g.toks.length:=by have:=of_decide_eq_true z; omega
  refine l12J hm hi w (w.s.b.le.kold kr) hf z fun H' Y' b' w' h'=>⟨g.toks.length-(t+1),by omega,⟨rfl,rfl,rfl,rfl,rfl,rfl,rfl,rfl,rfl,rfl,rfl,rfl,rfl,rfl,rfl,rfl,rfl,rfl,rfl,rfl,rfl,rfl,rfl,rfl,rfl,rfl,rfl⟩,rfl,rfl,rfl,rfl,rfl,rfl,rfl,rfl,rfl,rfl,t+1,Y',rfl,by omega,rfl,w',fun qb=>?_⟩
  obtain ⟨h1,h2⟩:=h' qb
  refine ⟨(hc h1).1,fun u hu hfu=>?_⟩
  by_cases e:u=t
  .subst e
   rw [w.t.no h1] at h2
   exact h2 hfu
  .exact (hc h1).2 u (by omega) hfu
 .have z:t=g.toks.length:=by have:=of_decide_eq_false z; omega
  subst z
  refine l12c ok hg hm hi w fun H' Y' b' w' h'=>hJ H' Y' b' w' fun qb=>?_
  obtain ⟨h1,h2⟩:=h' qb
  refine ⟨(hc h1).1,fun u hfu=>?_,h2⟩
  have hr:=hfin u hfu
  have eu:((u.toNat:Nat):Int)=u:=by omega
  have:=(hc h1).2 u.toNat (by omega)
  rw [eu] at this
  exact this hfu
theorem l12fL5 {Z H:KH} {Y:Int->Int->Bool} {n rb:Nat} {b:Bool} {f:Int->Bool} {J:(Nat->(OA->(Nat->(Nat->(OA->(Nat->(Nat->(OA->(Nat->(Nat->(OA->(Nat->(Nat->(OA->(Nat->(Nat->(OA->(Nat->(Nat->(OA->(Nat->(Nat->(OA->(Nat->(Nat->(OA->(Nat->(Nat->(Bool->(Int->(KH->Prop)))))))))))))))))))))))))))))))} (hg:GI Z g) (hm:MayG g) (hi:i<g.prods.length) (w:Rk Z H g.prods g.nts.length g.toks.length nb fb ob aF aO Y0 Y b) (kr:kold Z 1 (some ⟨rb,0,none⟩) g.toks.length=some (famC (bit1 f) g.toks.length)) (hf:∀ t,f t=true->Fst g.prods g.prods[i].left t)
 (hJ:∀ H' Y' b',Rk Z H' g.prods g.nts.length g.toks.length nb fb ob aF aO Y0 Y' b'->(b'=false->b=false/\(∀ t,f t=true->fsY g.toks.length Y0 g.prods[i].left t=true)/\ClsP (nlY Y0) (fsY g.toks.length Y0) (flY g.toks.length Y0) g.prods[i])->∃ m,m<n/\J m g.ta g.toks.length g.tc g.na g.nts.length g.nc g.pa g.prods.length g.pc z1 z2 z3 z4 z5 z6 z7 z8 z9 (some ⟨nb,0,none⟩) g.nts.length g.nts.length aF g.nts.length cF aO g.nts.length cO b' ((i+1:Nat):Int) H') (hfin:∀ t,f t=true->0<=t/\t<g.toks.length) :
 vc12_L5 g.ta g.toks.length g.tc g.na g.nts.length g.nc g.pa g.prods.length g.pc z1 z2 z3 z4 z5 z6 z7 z8 z9 (some ⟨nb,0,none⟩) g.nts.length g.nts.length aF g.nts.length cF aO g.nts.length cO b ((i:Nat):Int) g.prods[i].left g.prods[i].ra g.prods[i].right.length g.prods[i].rc g.prods[i].ua g.prods[i].un g.prods[i].uc (some ⟨rb,0,none⟩) g.toks.length g.toks.length H n J:=by
 have hT:=hm.t
 unfold vc12_L5
 refine ⟨fun k a4 n5 n6 a7 n8 n9 a10 n11 n12 a13 n14 n15 a16 n17 n18 a19 n20 n21 a22 n23 n24 a25 n26 n27 a28 n29 n30 b31 x32 x33 a34 n35 n36 a37 n38 n39 a40 n41 n42 x43 H44=>(g.ta=a4/\g.toks.length=n5/\g.tc=n6/\g.na=a7/\g.nts.length=n8/\g.nc=n9/\g.pa=a10/\g.prods.length=n11/\g.pc=n12/\z1=a13/\z2=n14/\z3=n15/\z4=a16/\z5=n17/\z6=n18/\z7=a19/\z8=n20/\z9=n21/\some ⟨nb,0,none⟩=a22/\g.nts.length=n23/\g.nts.length=n24/\aF=a25/\g.nts.length=n26/\cF=n27/\aO=a28/\g.nts.length=n29/\cO=n30)/\((i:Nat):Int)=x32/\g.prods[i].left=x33/\g.prods[i].ra=a34/\g.prods[i].right.length=n35/\g.prods[i].rc=n36/\g.prods[i].ua=a37/\g.prods[i].un=n38/\g.prods[i].uc=n39/\some ⟨rb,0,none⟩=a40/\g.toks.length=n41/\∃ (t:Nat) (Yt:Int->Int->Bool),x43=t/\t<=g.toks.length/\k=g.toks.length-t/\Rk Z H44 g.prods g.nts.length g.toks.length nb fb ob aF aO Y0 Yt b31/\(b31=false->b=false/\∀ u:Nat,u<t->f (u:Int)=true->fsY g.toks.length Y0 g.prods[i].left u=true),⟨g.toks.length,⟨rfl,rfl,rfl,rfl,rfl,rfl,rfl,rfl,rfl,rfl,rfl,rfl,rfl,rfl,rfl,rfl,rfl,rfl,rfl,rfl,rfl,rfl,rfl,rfl,rfl,rfl,rfl⟩,rfl,rfl,rfl,rfl,rfl,rfl,rfl,rfl,rfl,rfl,0,Y,rfl,by omega,rfl,w,fun q=>⟨q,fun u y=>absurd y (by omega)⟩⟩,?_⟩
 rintro k a4 n5 n6 a7 n8 n9 a10 n11 n12 a13 n14 n15 a16 n17 n18 a19 n20 n21 a22 n23 n24 a25 n26 n27 a28 n29 n30 b31 x32 x33 a34 n35 n36 a37 n38 n39 a40 n41 n42 x43 H44 ⟨⟨rfl,rfl,rfl,rfl,rfl,rfl,rfl,rfl,rfl,rfl,rfl,rfl,rfl,rfl,rfl,rfl,rfl,rfl,rfl,rfl,rfl,rfl,rfl,rfl,rfl,rfl,rfl⟩,rfl,rfl,rfl,rfl,rfl,rfl,rfl,rfl,rfl,rfl,t,Yt,rfl,ht,rfl,w,hc⟩
 refine ⟨fun z=>?_,fun z=>?_⟩
 .have z:t<g.toks.length:=by have:=of_decide_eq_true z; omega
  refine l12J hm hi w (w.s.b.le.kold kr) hf z fun H' Y' b' w' h'=>⟨g.toks.length-(t+1),by omega,⟨rfl,rfl,rfl,rfl,rfl,rfl,rfl,rfl,rfl,rfl,rfl,rfl,rfl,rfl,rfl,rfl,rfl,rfl,rfl,rfl,rfl,rfl,rfl,rfl,rfl,rfl,rfl⟩,rfl,rfl,rfl,rfl,rfl,rfl,rfl,rfl,rfl,rfl,t+1,Y',rfl,by omega,rfl,w',fun qb=>?_⟩
  obtain ⟨h1,h2⟩:=h' qb
  refine ⟨(hc h1).1,fun u hu hfu=>?_⟩
  by_cases e:u=t
  .subst e
   rw [w.t.no h1] at h2
   exact h2 hfu
  .exact (hc h1).2 u (by omega) hfu
 .have z:t=g.toks.length:=by have:=of_decide_eq_false z; omega
  subst z
  refine l12c ok hg hm hi w fun H' Y' b' w' h'=>hJ H' Y' b' w' fun qb=>?_
  obtain ⟨h1,h2⟩:=h' qb
  refine ⟨(hc h1).1,fun u hfu=>?_,h2⟩
  have hr:=hfin u hfu
  have eu:((u.toNat:Nat):Int)=u:=by omega
  have:=(hc h1).2 u.toNat (by omega)
  rw [eu] at this
  exact this hfu
theorem l12r {Z H:KH} {Y:Int->Int->Bool} {n:Nat} {J:(Nat->(OA->(Nat->(Nat->(OA->(Nat->(Nat->(OA->(Nat->(Nat->(OA->(Nat->(Nat->(OA->(Nat->(Nat->(OA->(Nat->(Nat->(OA->(Nat->(Nat->(OA->(Nat->(Nat->(OA->(Nat->(Nat->(Bool->(KH->Prop))))))))))))))))))))))))))))))} (hg:GI Z g) (hm:MayG g) (w:Rk Z H g.prods g.nts.length g.toks.length nb fb ob aF aO Y Y false)
 (hJ:∀ H' Y' b',Rk Z H' g.prods g.nts.length g.toks.length nb fb ob aF aO Y Y' b'->(b'=false->∀ p∈g.prods,Cls1 g.toks.length Y p)->∃ m,m<n/\J m g.ta g.toks.length g.tc g.na g.nts.length g.nc g.pa g.prods.length g.pc z1 z2 z3 z4 z5 z6 z7 z8 z9 (some ⟨nb,0,none⟩) g.nts.length g.nts.length aF g.nts.length cF aO g.nts.length cO b' H') :
 vc12_L7 g.ta g.toks.length g.tc g.na g.nts.length g.nc g.pa g.prods.length g.pc z1 z2 z3 z4 z5 z6 z7 z8 z9 (some ⟨nb,0,none⟩) g.nts.length g.nts.length aF g.nts.length cF aO g.nts.length cO H n J:=by
 unfold vc12_L7
 refine ⟨fun k a4 n5 n6 a7 n8 n9 a10 n11 n12 a13 n14 n15 a16 n17 n18 a19 n20 n21 a22 n23 n24 a25 n26 n27 a28 n29 n30 b31 x32 H33=>(g.ta=a4/\g.toks.length=n5/\g.tc=n6/\g.na=a7/\g.nts.length=n8/\g.nc=n9/\g.pa=a10/\g.prods.length=n11/\g.pc=n12/\z1=a13/\z2=n14/\z3=n15/\z4=a16/\z5=n17/\z6=n18/\z7=a19/\z8=n20/\z9=n21/\some ⟨nb,0,none⟩=a22/\g.nts.length=n23/\g.nts.length=n24/\aF=a25/\g.nts.length=n26/\cF=n27/\aO=a28/\g.nts.length=n29/\cO=n30)/\∃ (t:Nat) (Yt:Int->Int->Bool),x32=t/\t<=g.prods.length/\k=g.prods.length-t/\Rk Z H33 g.prods g.nts.length g.toks.length nb fb ob aF aO Y Yt b31/\(b31=false->∀ u (hu:u<g.prods.length),u<t->Cls1 g.toks.length Y g.prods[u]),⟨g.prods.length,⟨rfl,rfl,rfl,rfl,rfl,rfl,rfl,rfl,rfl,rfl,rfl,rfl,rfl,rfl,rfl,rfl,rfl,rfl,rfl,rfl,rfl,rfl,rfl,rfl,rfl,rfl,rfl⟩,0,Y,rfl,by omega,rfl,w,fun q u _ y=>absurd y (by omega)⟩,?_⟩
 rintro k a4 n5 n6 a7 n8 n9 a10 n11 n12 a13 n14 n15 a16 n17 n18 a19 n20 n21 a22 n23 n24 a25 n26 n27 a28 n29 n30 b31 x32 H33 ⟨⟨rfl,rfl,rfl,rfl,rfl,rfl,rfl,rfl,rfl,rfl,rfl,rfl,rfl,rfl,rfl,rfl,rfl,rfl,rfl,rfl,rfl,rfl,rfl,rfl,rfl,rfl,rfl⟩,t,Yt,rfl,ht,rfl,w,hc⟩
 refine ⟨fun z=>?_,fun z=>?_⟩
 .have z:t<g.prods.length:=by have:=of_decide_eq_true z; omega
  have et:Int.toNat ((t:Nat):Int)=t:=by omega
  have hpo:=hm.pr t z
  have hri:=hg.pi t z
  have hsy:=SymsIn.of hm z
  have hT:=hm.t
  obtain ⟨b0,o0,ha,r0⟩:=pr_ld (hg.up w.s.b.le).p z
  have lo:((g.prods[t].left.toNat:Nat):Int)=g.prods[t].left:=by have:=hpo.a; omega
  have fin:∀ {Z' H':KH} {Y':Int->Int->Bool} {b b':Bool},Le Z Z'->Rk Z' H' g.prods g.nts.length g.toks.length nb fb ob aF aO Y Y' b'->(b'=false->b31=false/\Cls2 g.toks.length Y g.prods[t]/\ClsP (nlY Y) (fsY g.toks.length Y) (flY g.toks.length Y) g.prods[t])->∃ m,m<g.prods.length-t/\(g.ta=g.ta/\g.toks.length=g.toks.length/\g.tc=g.tc/\g.na=g.na/\g.nts.length=g.nts.length/\g.nc=g.nc/\g.pa=g.pa/\g.prods.length=g.prods.length/\g.pc=g.pc/\z1=z1/\z2=z2/\z3=z3/\z4=z4/\z5=z5/\z6=z6/\z7=z7/\z8=z8/\z9=z9/\(some ⟨nb,0,none⟩:OA)=some ⟨nb,0,none⟩/\g.nts.length=g.nts.length/\g.nts.length=g.nts.length/\aF=aF/\g.nts.length=g.nts.length/\cF=cF/\aO=aO/\g.nts.length=g.nts.length/\cO=cO)/\∃ (t':Nat) (Yt:Int->Int->Bool),((t+1:Nat):Int)=t'/\t'<=g.prods.length/\m=g.prods.length-t'/\Rk Z H' g.prods g.nts.length g.toks.length nb fb ob aF aO Y Yt b'/\(b'=false->∀ u (hu:u<g.prods.length),u<t'->Cls1 g.toks.length Y g.prods[u]):=fun {Z' H' Y' b b'} lZ w' h=>⟨g.prods.length-(t+1),by omega,⟨rfl,rfl,rfl,rfl,rfl,rfl,rfl,rfl,rfl,rfl,rfl,rfl,rfl,rfl,rfl,rfl,rfl,rfl,rfl,rfl,rfl,rfl,rfl,rfl,rfl,rfl,rfl⟩,t+1,Y',rfl,by omega,rfl,w'.less lZ w.s.hf w.s.ho,fun qb u hu hut=>by
   obtain ⟨h1,h2,h3⟩:=h qb
   by_cases e:u=t
   .subst e; exact ⟨h2.n,h2.f,h3⟩
   .exact hc h1 u hu (by omega)⟩
  rw [et]
  refine ⟨⟨by omega,by omega⟩,b0,o0,ha,_,_,_,_,_,_,_,r0,c19 ok w.s (w.s.b.le.kold hri.1) hsy hT.2 (by have:=hpo.b; omega) fun rb H11 l11 hrb kr=>⟨_,_,_,_,rfl,fun q=>?_,fun q=>?_⟩⟩
  .obtain ⟨Z',lZ,w',kr⟩:=(w.up l11).row w.s hrb kr
   obtain ⟨v1,v2⟩:=ofK_sound w.d.n w.d.f g.prods[t].right
   have hfst:∀ u,(ofK (nlY Yt) (fsY g.toks.length Yt) g.prods[t].right).1 u=true->Fst g.prods g.prods[t].left u:=fun u y=>FstR.left (List.getElem_mem z) (v2 u y)
   have rn:=w'.s.ldN (i:=g.prods[t].left.toNat) (by have:=hpo.a; omega)
   have rs:=w'.s.setN (i:=g.prods[t].left.toNat) (by have:=hpo.a; omega)
   rw [lo] at rn rs
   refine ⟨hpo.a,nb,0,rfl,_,rn,fun q2=>?_,fun q2=>?_⟩
   .have q2:Yt g.prods[t].left 0=false:=by cases e:Yt g.prods[t].left 0<;>rw [e] at q2<;>first | rfl | cases q2
    refine ⟨hpo.a,nb,0,rfl,⟨[.bool (Yt g.prods[t].left 0)],rfl,rn⟩,Bxs.may w'.s.b (j:=.n) trivial,?_⟩
    have w2:=w'.set rs hpo.a ⟨by omega,by omega⟩ (w'.d.setN (NulR.left (List.getElem_mem z) (v1 q))) q2
    exact l12fL4 ok (i:=t) (hg.up lZ) hm z rfl w2 kr hfst (fun H' Y' b' w3 h3=>fin (b:=true) lZ w3 fun qb=>by cases (h3 qb).1) (ofK_in hsy)
   .have q2:Yt g.prods[t].left 0=true:=by cases e:Yt g.prods[t].left 0<;>rw [e] at q2<;>first | rfl | cases q2
    refine l12fL5 ok (i:=t) (hg.up lZ) hm z w' kr hfst (fun H' Y' b' w3 h3=>fin (b:=b31) lZ w3 fun qb=>?_) (ofK_in hsy)
    obtain ⟨h4,h5,h6⟩:=h3 qb
    rw [w.t.no h4] at h5 q2
    exact ⟨h4,⟨fun _=>q2,h5⟩,h6⟩
  .obtain ⟨Z',lZ,w',kr⟩:=(w.up l11).row w.s hrb kr
   obtain ⟨v1,v2⟩:=ofK_sound w.d.n w.d.f g.prods[t].right
   have hfst:∀ u,(ofK (nlY Yt) (fsY g.toks.length Yt) g.prods[t].right).1 u=true->Fst g.prods g.prods[t].left u:=fun u y=>FstR.left (List.getElem_mem z) (v2 u y)
   refine l12fL5 ok (i:=t) (hg.up lZ) hm z w' kr hfst (fun H' Y' b' w3 h3=>fin (b:=b31) lZ w3 fun qb=>?_) (ofK_in hsy)
   obtain ⟨h4,h5,h6⟩:=h3 qb
   rw [w.t.no h4] at h5 q
   exact ⟨h4,⟨fun y=>(by rw [q] at y; cases y),h5⟩,h6⟩
 .have z:t=g.prods.length:=by have:=of_decide_eq_false z; omega
  subst z
  exact hJ H33 Yt b31 w fun qb p hp=>by
   obtain ⟨u,hu,rfl⟩:=List.mem_iff_getElem.1 hp
   exact hc qb u hu hu
theorem l12s {Z H K:KH} {Y:Int->Int->Bool} {p q:Nat} {Q:PQ} (hg:GI Z g) (hm:MayG g) (hK:H.put ⟨p,q+(Int.toNat ((g.toks.length:Nat):Int))*1,none⟩ [.bool true]=K) (w:Rk Z K g.prods g.nts.length g.toks.length nb fb ob aF aO Y Y false) (h0:flY g.toks.length Y 0 g.toks.length=true)
 (hq:∀ H' Y',RefS Z H' g.nts.length g.toks.length nb fb ob aF aO Y'->IsN g.prods (nlY Y')->IsF g.prods (fsY g.toks.length Y')->IsL g.prods g.toks.length (flY g.toks.length Y')->Q (.agg #[.slice (some ⟨nb,0,none⟩) g.nts.length g.nts.length,.slice aF g.nts.length cF,.slice aO g.nts.length cO]) H') :
 vc12_L8 g.ta g.toks.length g.tc g.na g.nts.length g.nc g.pa g.prods.length g.pc z1 z2 z3 z4 z5 z6 z7 z8 z9 (some ⟨nb,0,none⟩) g.nts.length g.nts.length aF g.nts.length cF aO g.nts.length cO H p q Q:=by
 unfold vc12_L8
 rw [hK]
 refine ⟨fun k a4 n5 n6 a7 n8 n9 a10 n11 n12 a13 n14 n15 a16 n17 n18 a19 n20 n21 a22 n23 n24 a25 n26 n27 a28 n29 n30 b31 H32=>(g.ta=a4/\g.toks.length=n5/\g.tc=n6/\g.na=a7/\g.nts.length=n8/\g.nc=n9/\g.pa=a10/\g.prods.length=n11/\g.pc=n12/\z1=a13/\z2=n14/\z3=n15/\z4=a16/\z5=n17/\z6=n18/\z7=a19/\z8=n20/\z9=n21/\some ⟨nb,0,none⟩=a22/\g.nts.length=n23/\g.nts.length=n24/\aF=a25/\g.nts.length=n26/\cF=n27/\aO=a28/\g.nts.length=n29/\cO=n30)/\∃ Yt:Int->Int->Bool,Rk Z H32 g.prods g.nts.length g.toks.length nb fb ob aF aO Yt Yt false/\flY g.toks.length Yt 0 g.toks.length=true/\(b31=false->∀ p∈g.prods,Cls1 g.toks.length Yt p)/\k=if b31=true then miss g.nts.length (2*g.toks.length+2) Yt+1 else 0,⟨_,⟨rfl,rfl,rfl,rfl,rfl,rfl,rfl,rfl,rfl,rfl,rfl,rfl,rfl,rfl,rfl,rfl,rfl,rfl,rfl,rfl,rfl,rfl,rfl,rfl,rfl,rfl,rfl⟩,Y,w,h0,fun q=>(by cases q),rfl⟩,?_⟩
 rintro k a4 n5 n6 a7 n8 n9 a10 n11 n12 a13 n14 n15 a16 n17 n18 a19 n20 n21 a22 n23 n24 a25 n26 n27 a28 n29 n30 b31 H32 ⟨⟨rfl,rfl,rfl,rfl,rfl,rfl,rfl,rfl,rfl,rfl,rfl,rfl,rfl,rfl,rfl,rfl,rfl,rfl,rfl,rfl,rfl,rfl,rfl,rfl,rfl,rfl,rfl⟩,Yt,w,h0,hc,rfl⟩
 refine ⟨fun z=>?_,fun z=>?_⟩
 .subst z
  refine l12r ok hg hm w fun H' Y' b' w' h'=>?_
  have mono:flY g.toks.length Y' 0 g.toks.length=true:=by
   rw [flY_at (by omega) (by omega)] at h0 ⊢
   exact w'.t.le _ _ h0
  refine ⟨_,?_,⟨rfl,rfl,rfl,rfl,rfl,rfl,rfl,rfl,rfl,rfl,rfl,rfl,rfl,rfl,rfl,rfl,rfl,rfl,rfl,rfl,rfl,rfl,rfl,rfl,rfl,rfl,rfl⟩,Y',⟨w'.s,w'.i,w'.d,Stp.refl Y'⟩,mono,fun q=>?_,rfl⟩
  .cases b'
   .rw [if_neg (by simp),if_pos rfl]; omega
   .rw [if_pos rfl,if_pos rfl]; have:=w'.t.miss w'.i; omega
  .rw [w'.t.no q]; exact h' q
 .subst z
  obtain ⟨h1,h2,h3⟩:=is3_of w.d h0 (hc rfl)
  exact hq H32 Yt w.s h1 h2 h3
end
end
end Va
end Go.Proofs.Ytefiipkfppaibaa
namespace Go.Ew
open Go.Ev Go.Deep
theorem RowsB.at_ {H:KH} {a:OA} {N M i:Nat} {X:Int->Int->Bool} (h:RowsB H a N M X) (hi:i<N):∃ b o a' c',a=some ⟨b,o,none⟩/\ld H ⟨b,o+i*1,none⟩ [.slice a' M c']/\kold H 1 a' M=some (famC (bit1 (X (i:Int))) M):=by
 obtain ⟨l,rfl,h2,h3⟩:=h.ex
 obtain ⟨b,o,ha,r⟩:=it_ld (k:=1) (f:=fun x:Hd=>[.slice x.a M x.c]) (fun _=>rfl) h2 hi
 exact ⟨b,o,l[i].a,l[i].c,ha,r,h3 i hi⟩
end Go.Ew
namespace Go.Proofs.Ytefiipkfppaibaa
open Go.Ev Go.Ew
namespace Va
section
variable (ok : EnvOk (env Try.prog))
include ok
end
end Va
end Go.Proofs.Ytefiipkfppaibaa
