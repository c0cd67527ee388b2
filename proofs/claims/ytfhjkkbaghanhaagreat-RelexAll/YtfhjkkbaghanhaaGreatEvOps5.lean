import Derived.Test.YtfhjkkbaghanhaaGreatEvDefs
import Derived.IntWalk
import Derived.Lib.ConvBytes
set_option linter.unusedVariables false
set_option linter.unusedSimpArgs false
namespace Go.Ev
open Go.Deep Go.RowKit
theorem op_makeSlice [LG] {E:Env} (hE:EnvT E) {o:Oper} {nm:Nat} {θ:Th} {h:Hp} {w:World} {a:Act} {T:Tm} (hr:HR θ h w) (ht:TO θ T a o) {t:TypeId} {l c:Operand} {k1 k2:IntKind} {n k:Int} {ti ei:TI}
 (hnm:θ nm=none) (ho:o.op = .makeSlice t l c) (hl:opv T l=some (.int k1 n)) (hc:opv T c=some (.int k2 k)) (hti:tget E.tt t=some ti) (hei:tget E.tt ti.elem=some ei) (hk:ti.kind=1)
 (h0:0<=n) (h1:n<=k) (h2:k<=1000000) (hb:ei.bytes<=1000000) (hzl:ei.zero.length=ei.size) :
 OpOk E.P o nm θ h w a (.slice (some ⟨nm,0,none⟩) n.toNat k.toNat) (halloc h nm (mkEnt (lrep ei.zero k.toNat) 0)):=by
 obtain ⟨i,d,z,fl,g1,g2,g3,g4,g5,rfl⟩:=ti_spec (hE _ _ hti)
 obtain ⟨i2,d2,z2,fs2,m1,m2,m3,m4,m5,rfl⟩:=ti_spec (hE _ _ hei)
 simp only at hk hei m1 m2 hb hzl
 rw [kind_slice hk] at g2
 obtain ⟨e1,e2⟩:=alloc_sound hr hnm [] (plain_all2 (plain_lrep m5 k.toNat)) (kindOf d).2.1 0 0 (fun e=>absurd rfl e)
 simp only [List.append_nil] at e1 e2
 have hln:a.eval l = .int k1 n:=ht _ (by simp [ho,Op.operands]) _ hl
 have hcn:a.eval c = .int k2 k:=ht _ (by simp [ho,Op.operands]) _ hc
 refine ⟨_,_,.slice (some ⟨w.heap.size,0,none⟩) n.toNat k.toNat,_,?_,.inl rfl,e2,e1,?_⟩
 .have w1:=wrap_small h0 (by omega)
  have w2:=wrap_small (n:=k) (by omega) h2
  have hbig:(i2.bytes:Int)*k<=1000000000000:=by
   have:(i2.bytes:Int)*k<=1000000*1000000:=Int.mul_le_mul (by omega) h2 (by omega) (by omega)
   omega
  have hnb:¬ (281474976710656<(i2.bytes:Int)*k):=by omega
  have hk0:¬ k<0:=by omega
  have hn0:¬ n<0:=by omega
  have hnk:¬ k<n:=by omega
  by_cases e:k.toNat*i2.size=0
  .have hn:(lrep z2.cells.toList k.toNat)=[]:=List.eq_nil_of_length_eq_zero (by rw [lrep_length,hzl,e])
   rw [hn]
   simp [execOp,ho,Instr.makeSlice,run_underlying g2,hln,hcn,asInt,asIntOf,w1,w2,run_typeInfo m1,hnb,hk0,hn0,hnk,run_sizeOf m1,e,newRow]
   have hz0:∀ f:Nat->Value,(Array.range 0).map f=([]:List Value).toArray:=fun f=>by simp
   rw [hz0]
  .have hrow:=range_zero z2.cells.toList k.toNat
   rw [hzl] at hrow
   simp only [Array.toArray_toList] at hrow
   simp [execOp,ho,Instr.makeSlice,run_underlying g2,hln,hcn,asInt,asIntOf,w1,w2,run_typeInfo m1,hnb,hk0,hn0,hnk,run_sizeOf m1,e,newRow,run_zeroValue m1 m3]
   congr 2
 .exact .inl ⟨rfl,(w.heap.size,0,0),k.toNat,by simp,.inl ⟨by unfold unkU; omega,rfl⟩,rfl⟩
theorem run_builtin {P:Program} {w w':World} {a:Act} {o:Oper} {c:Call} {b:Builtin} {us:List Value} {u:Value} (ho:o.op = .call c) (hc:c.callee = .builtin b) (hu:c.args.toList.map a.eval=us) {s:Sem Value}
 (hb:∀ consts,builtin b c.argTypes o.type consts us.toArray=(do pure (.value (<- s)))) (hs:s.run P w = .ok u w'):(execOp a.eval o).run P w = .ok (.value u) w':=by
 have harr:c.args.map a.eval=us.toArray:=by apply Array.ext'; simp [<- hu]
 simp [execOp,ho,resolve,hc,invoke,harr,hb,hs]
theorem op_len [LG] {E:Env} (hE:EnvT E) {o:Oper} {nm:Nat} {θ:Th} {h:Hp} {w:World} {a:Act} {T:Tm} (hr:HR θ h w) (ht:TO θ T a o) {c:Call} {sa:Option Addr} {n k:Nat} {t:TypeId} {ti:TI}
 (ho:o.op = .call c) (hc:c.callee = .builtin .len) (hv:opvs (opv T) c.args.toList=some [.slice sa n k]) (htys:c.argTypes.toList=[t]) (hti:tget E.tt t=some ti) (hk:ti.kind=1):OpOk E.P o nm θ h w a (.int .i64 n) h:=by
 obtain ⟨i,d,z,fl,g1,g2,g3,g4,g5,rfl⟩:=ti_spec (hE _ _ hti)
 simp only at hk
 rw [kind_slice hk] at g2
 have hw:=opvs_O (fun y hy=>ht y (by simp [ho,Op.operands,Call.operands]; exact .inr (by simpa using hy))) hv
 have hat:c.argTypes = #[t]:=by rw [<- Array.toArray_toList (xs:=c.argTypes),htys]
 match hm:c.args.toList.map a.eval,hw with
 | [y],hw =>
   have hy:∃ x c',y = .slice x n c':=by
    cases sa with
    | none=>exact ⟨none,k,hw.1⟩
    | some ad=>obtain ⟨x,c',e,_⟩:=SlR.some hw.1; exact ⟨_,c',e⟩
   obtain ⟨x,c',rfl⟩:=hy
   refine opOk_same hr (u:=.int .i64 n) (run_builtin ho hc hm (s:=Builtin.len_ c.argTypes o.type #[.slice x n c']) (fun _=>rfl) ?_) rfl
   simp [Builtin.len_,hat,run_underlying g2,goInt]
theorem op_cap [LG] {E:Env} (hE:EnvT E) {o:Oper} {nm:Nat} {θ:Th} {h:Hp} {w:World} {a:Act} {T:Tm} (hr:HR θ h w) (ht:TO θ T a o) {c:Call} {sa:Option Addr} {n k:Nat} {t:TypeId} {ti:TI}
 (ho:o.op = .call c) (hc:c.callee = .builtin .cap) (hv:opvs (opv T) c.args.toList=some [.slice sa n k]) (htys:c.argTypes.toList=[t]) (hti:tget E.tt t=some ti) (hk:ti.kind=1) (hlt:k<unkU):OpOk E.P o nm θ h w a (.int .i64 k) h:=by
 obtain ⟨i,d,z,fl,g1,g2,g3,g4,g5,rfl⟩:=ti_spec (hE _ _ hti)
 simp only at hk
 rw [kind_slice hk] at g2
 have hw:=opvs_O (fun y hy=>ht y (by simp [ho,Op.operands,Call.operands]; exact .inr (by simpa using hy))) hv
 have hat:c.argTypes = #[t]:=by rw [<- Array.toArray_toList (xs:=c.argTypes),htys]
 match hm:c.args.toList.map a.eval,hw with
 | [y],hw =>
   have hy:∃ x,y = .slice x n k:=by
    cases sa with
    | none=>exact ⟨none,hw.1⟩
    | some ad =>
      obtain ⟨x,c',e,hc'⟩:=SlR.some hw.1
      rw [hc' hlt] at e
      exact ⟨_,e⟩
   obtain ⟨x,rfl⟩:=hy
   refine opOk_same hr (u:=.int .i64 k) (run_builtin ho hc hm (s:=Builtin.cap_ c.argTypes o.type #[.slice x n k]) (fun _=>rfl) ?_) rfl
   simp [Builtin.cap_,hat,run_underlying g2,goInt]
theorem first_sound [LG] {P:Program} {θ:Th} {h:Hp} {w:World} (hr:HR θ h w) {sz n:Nat} {sa:Option Addr} {cap:Nat} {cs:List Value} {y:Value} (hy:W θ (.slice sa n cap) y) (hc:oldCells h sz sa n=some cs) :
 ∃ x c ds,y = .slice x n c/\all2 (S θ) cs ds/\ds.length=n*sz/\∀ k,(Builtin.firstCells sz n (.slice x n c)).run P { w with drawn:=k } = .ok (List.toArray ds) { w with drawn:=k }:=by
 cases sa with
 | none =>
   simp only [oldCells] at hc
   cases hn:Nat.beq n 0<;>simp [hn] at hc
   have hn0:n=0:=Nat.eq_of_beq_eq_true hn
   subst hc; subst hn0
   exact ⟨none,cap,[],hy,trivial,by simp,fun k=>by simp [Builtin.firstCells]⟩
 | some ad =>
   simp only [oldCells] at hc
   split at hc
   case h_2 _ sp hsp =>
    rcases (show SlR θ ad n cap y from hy) with ⟨q,_⟩ | ⟨_,hn0,_,x,c',e⟩
    .rw [hsp] at q; cases q
    .subst hn0
     cases hc
     exact ⟨_,c',[],e,trivial,by simp,fun k=>by simp [Builtin.firstCells,loadCells,loadCellsFrom]⟩
   rename_i hsp
   obtain ⟨hs,x,c',hx,hcap,e⟩:=SlR.here (show SlR θ ad n cap y from hy) hsp
   obtain ⟨ds,k1,k2,k3,k4⟩:=load_sound (P:=P) hr hc hx
   refine ⟨_,c',ds,e,k2,k4,fun k=>?_⟩
   have:=run_loadCells_list (P:=P) { w with drawn:=k } ⟨x.1,x.2.1+ad.off,none⟩ ds (fun j v hv=>by rw [add_addr]; exact k3 j v hv)
   rw [k4] at this
   simpa [Builtin.firstCells] using this
theorem grow_fits {need old bytes:Nat} (h:old<need) (hn:need<=1000000) (hb:bytes<=1000000):Builtin.nextslicecap need old*bytes<=281474976710656 :=
 growslice_fits h (Nat.le_trans (Nat.mul_le_mul hn hb) (by decide))
theorem W_unk {θ:Th} {nm len c b o:Nat} {x:Nat × Nat × Nat} (h:θ nm=some x) (h1:x.1=b) (h2:x.2.1=o) (hc:c=x.2.2):W θ (.slice (some ⟨nm,0,none⟩) len unkU) (.slice (some ⟨b,o,none⟩) len c) :=
 .inl ⟨rfl,x,c,h,.inr ⟨Nat.le_refl _,by rw [Nat.sub_self,Nat.sub_zero]; exact hc⟩,by rw [<- h1,<- h2]; rfl⟩
theorem append_core [LG] {P:Program} {o:Oper} {nm:Nat} {θ:Th} {h h':Hp} {w:World} {a:Act} (hr:HR θ h w) {ti:TI} {i:TypeInfo} {z:Value} {e:TypeId} (hi:P.info? e=some i) (hz:i.zero=some z) (hts:ti.size=i.size) (htb:ti.bytes=i.bytes) (hzl:z.cells.toList.length=i.size)
 {sa:Option Addr} {len cap n:Nat} {nc ns:List Value} {y v:Value} (hnm:θ nm=none) (hy:W θ (.slice sa len cap) y) (hnc:all2 (S θ) nc ns) (hnl:ns.length=n*i.size)
 (hroom:∀ (b:Addr) (c:Nat) (w':World),y = .slice (some b) len c->len+n<=c->(storeCells (b.add (len*i.size)) ns).run P w = .ok () w'->(execOp a.eval o).run P w = .ok (.value (.slice (some b) (len+n) c)) w')
 (hroom0:∀ (c:Nat),y = .slice none len c->len=0->n=0->(execOp a.eval o).run P w = .ok (.value (.slice none 0 c)) w)
 (hgrow:∀ (b:Option Addr) (c:Nat) (olds:List Value),y = .slice b len c->c<len+n->(Builtin.firstCells i.size len (.slice b len c)).run P w.drew = .ok olds.toArray w.drew->len+n<=1000000->i.bytes<=1000000->
   (execOp a.eval o).run P w = .ok (.value (.slice (some ⟨w.heap.size,0,none⟩) (len+n) (grownCap w (len+n) c e)))
     (w.drew.alloc (.cells ((olds++ns)++lrep z.cells.toList (grownCap w (len+n) c e-(len+n))).toArray e)))
 (hx:xappend h nm ti sa len cap n nc=some (v,h')):OpOk P o nm θ h w a v h':=by
 simp only [xappend] at hx
 cases hb:(Nat.ble (len+n) 1000000&&Nat.ble ti.bytes 1000000&&Nat.ble 1 ti.size)<;>simp only [hb,cond_true,cond_false] at hx
 .cases hx
 simp only [Bool.and_eq_true] at hb
 have b1:=Nat.le_of_ble_eq_true hb.1.1
 have b2:=Nat.le_of_ble_eq_true hb.1.2
 have b3:=Nat.le_of_ble_eq_true hb.2
 rw [hts] at hx b3
 rw [htb] at b2
 have hncl:nc.length=n*i.size:=by rw [all2_len hnc,hnl]
 -- a new row
 have grow:∀ (b:Option Addr) (c:Nat) (old olds:List Value),y = .slice b len c->c<len+n->all2 (S θ) old olds->olds.length=len*i.size->
  (Builtin.firstCells i.size len (.slice b len c)).run P w.drew = .ok olds.toArray w.drew->
  ∃ θ' w' u nx,(execOp a.eval o).run P w = .ok nx w'/\(nx = .value u\/(nx = .skip/\u=undef))/\W θ' (.slice (some ⟨nm,0,none⟩) (len+n) unkU) u/\
   HR θ' (halloc h nm (mkEnt (old++nc) i.size)) w'/\Ext nm θ h w θ' (halloc h nm (mkEnt (old++nc) i.size)) w'/\θ'=(fun k=>if k=nm then some (w.heap.size,0,grownCap w (len+n) c e) else θ k)/\
   w'=w.drew.alloc (.cells ((olds++ns)++lrep z.cells.toList (grownCap w (len+n) c e-(len+n))).toArray e):=by
  intro b c old olds hyb hc hol hll hrun
  have hge:=grownCap_ge w (len+n) c e
  have hlen:(old++nc).length<=grownCap w (len+n) c e*i.size/\grownCap w (len+n) c e*i.size<=((olds++ns)++lrep z.cells.toList (grownCap w (len+n) c e-(len+n))).length:=by
   have l1:=all2_len hol
   simp only [List.length_append,lrep_length,hzl,hncl,hll,hnl,l1]
   have e1:len*i.size+n*i.size=(len+n)*i.size:=by rw [Nat.add_mul]
   rw [e1]
   have e2:(len+n)*i.size+(grownCap w (len+n) c e-(len+n))*i.size=grownCap w (len+n) c e*i.size:=by rw [<- Nat.add_mul]; congr 1; omega
   exact ⟨Nat.mul_le_mul_right _ hge,by omega⟩
  obtain ⟨g1,g2⟩:=alloc_sound (hr.drawn (w.drawn+1)) hnm (lrep z.cells.toList (grownCap w (len+n) c e-(len+n))) (all2_append hol hnc) e (grownCap w (len+n) c e) i.size (fun _=>hlen)
  refine ⟨_,_,_,_,hgrow b c olds hyb hc hrun b1 b2,.inl rfl,?_,g1,(Ext.drawn nm θ h w (w.drawn+1)).trans g2 (fun _ _ k=>k),rfl,rfl⟩
  exact .inl ⟨rfl,(w.heap.size,0,grownCap w (len+n) c e),grownCap w (len+n) c e,by simp,.inr ⟨Nat.le_refl _,by simp⟩,rfl⟩
 cases hlt:Nat.blt cap unkU<;>simp only [hlt,cond_true,cond_false] at hx
 .
  have hge:unkU<=cap:=by
   rcases Nat.lt_or_ge cap unkU with g | g
   .have:Nat.blt cap unkU=true:=by unfold Nat.blt; exact Nat.ble_eq_true_of_le g
    rw [this] at hlt; cases hlt
   .exact g
  cases sa with
  | none=>cases hx
  | some b =>
    simp only at hx
    have hbs:b.spot=none:=by
     have hx:=hx
     split at hx
     .cases hx
     .rename_i ent hent
      cases hq:(Nat.beq ent.unk i.size&&Nat.beq b.off ((cap-unkU)*i.size)&&b.spot.isNone&&wrB ent)<;>simp only [hq,cond_true,cond_false] at hx
      .cases hx
      .simp only [Bool.and_eq_true] at hq
       simpa using hq.1.2
    obtain ⟨hs,x,c',hxb,hcap,hyv⟩:b.spot=none/\∃ x c',θ b.block=some x/\capR x.2.2 cap c'/\y = .slice (some ⟨x.1,x.2.1+b.off,none⟩) len c':=SlR.here hy hbs
    rcases hcap with ⟨g,_⟩ | ⟨_,hc'⟩
    .omega
    split at hx
    .cases hx
    .rename_i ent hent
     cases hq:(Nat.beq ent.unk i.size&&Nat.beq b.off ((cap-unkU)*i.size)&&b.spot.isNone&&wrB ent)<;>simp only [hq,cond_true,cond_false] at hx
     .cases hx
     simp only [Bool.and_eq_true] at hq
     have q1:ent.unk=i.size:=Nat.eq_of_beq_eq_true hq.1.1.1
     have q2:b.off=(cap-unkU)*i.size:=Nat.eq_of_beq_eq_true hq.1.1.2
     have qw:=(wrB_spec hq.2).1
     generalize hsub:cap-unkU=sub at hc' q2
     obtain ⟨xx,hxx⟩:∃ xx,xx=x:=⟨x,rfl⟩
     subst hxx
     have r:=hr.ent _ _ _ hent hxb
     cases hin:Nat.ble (b.off+(len+n)*i.size) ent.len<;>simp only [hin,cond_true,cond_false] at hx
     .
      obtain ⟨old,hold,hv⟩:=ob_some hx
      cases hv
      rw [q2] at hold
      by_cases hroomy:len+n<=c'
      .obtain ⟨g1,g2,g3⟩:=derive_sound (P:=P) hr hent hxb hnm b3 q1 qw hold hnc hncl (by rw [<- hc']; exact hroomy)
       refine ⟨_,_,.slice (some ⟨xx.1,xx.2.1+b.off,none⟩) (len+n) c',_,hroom _ c' _ hyv hroomy ?_,.inl rfl,g3,g2,?_⟩
       .rw [add_addr,q2]; exact g1
       .exact W_unk (x:=(xx.1,xx.2.1+sub*i.size,xx.2.2-sub)) (by simp) rfl (by rw [q2]) hc'
      .have hl:hload h b (len*i.size)=some old:=by
        unfold hload
        rw [hs,hent]
        simp only
        rw [q2]; exact hold
       obtain ⟨ds,k1,k2,k3,k4⟩:=load_sound (P:=P) hr hl hxb
       have hrun:(Builtin.firstCells i.size len (.slice (some ⟨xx.1,xx.2.1+b.off,none⟩) len c')).run P w.drew = .ok ds.toArray w.drew:=by
        have:=run_loadCells_list (P:=P) w.drew ⟨xx.1,xx.2.1+b.off,none⟩ ds (fun j v hv=>by rw [add_addr]; exact k3 j v hv)
        rw [k4] at this
        simpa [Builtin.firstCells] using this
       obtain ⟨θ',w',u,nx,m1,m2,m3,m4,m5,rfl,m6⟩:=grow _ c' old ds hyv (by omega) k2 k4 hrun
       refine ⟨_,_,u,nx,m1,m2,?_,?_,m3⟩
       .refine ⟨m5.keep,m5.only,m5.nxt,m5.size,m5.tape,m5.os,m5.output,m5.frame,fun k ek zk h1 huk h2=>?_,fun k ek zk h1 h2=>?_⟩
        all_goals
         simp only [halloc,tget_tset] at h1
         first | refine m5.ownw k ek zk ?_ huk h2 | refine m5.own k ek zk ?_ h2
         simp only [halloc,tget_tset]
         by_cases hk:nm=k
         .rw [if_pos hk] at h1 ⊢; exact h1
         .rw [if_neg hk] at h1 ⊢
          by_cases hk2:b.block=k
          .rw [if_pos hk2] at h1; cases h1
          .rw [if_neg hk2] at h1; exact h1
       .have lift:∀ k ek,tget (halloc ⟨tset h.m b.block none,h.nxt⟩ nm (mkEnt (old++nc) i.size)).m k=some ek->tget (halloc h nm (mkEnt (old++nc) i.size)).m k=some ek:=by
         intro k ek h1
         simp only [halloc,tget_tset] at h1 ⊢
         by_cases hk:nm=k
         .rw [if_pos hk] at h1 ⊢; exact h1
         .rw [if_neg hk] at h1 ⊢
          by_cases hk2:b.block=k
          .rw [if_pos hk2] at h1; cases h1
          .rw [if_neg hk2] at h1; exact h1
        exact ⟨fun k ek xk h1=>m4.ent k ek xk (lift k ek h1),fun k m e1 e2 x1 x2 h1 h2 hne t1 t2=>m4.sep k m e1 e2 x1 x2 (lift _ _ h1) (lift _ _ h2) hne t1 t2,m4.fresh⟩
     .
      have hle:=Nat.le_of_ble_eq_true hin
      obtain ⟨h2,hst,hv⟩:=ob_some hx
      cases hv
      obtain ⟨g1,g2,g3⟩:=store_sound (P:=P) hr hst (x:=xx) hxb hnc
      have hrm:=(r.room (by omega)).1
      rw [q1] at hrm
      have hroomy:len+n<=c':=by
       rw [hc']
       have hmul:(sub+(len+n))*i.size<=xx.2.2*i.size:=by rw [Nat.add_mul]; omega
       have:=Nat.le_of_mul_le_mul_right hmul (by omega)
       omega
      refine ⟨θ,_,.slice (some ⟨xx.1,xx.2.1+b.off,none⟩) (len+n) c',_,hroom _ c' _ hyv hroomy ?_,.inl rfl,g3 nm,g2,.inl ⟨hs,xx,c',hxb,.inr ⟨hge,by rw [hsub]; exact hc'⟩,rfl⟩⟩
      rw [add_addr,Nat.add_assoc]; exact g1
 .
  have hltc:cap<unkU:=by unfold Nat.blt at hlt; exact Nat.le_of_ble_eq_true hlt
  cases hle:Nat.ble (len+n) cap<;>simp only [hle,cond_true,cond_false] at hx
  .have hgt:cap<len+n:=by
    rcases Nat.lt_or_ge cap (len+n) with g | g
    .exact g
    .rw [Nat.ble_eq_true_of_le g] at hle; cases hle
   obtain ⟨old,hold,hv⟩:=ob_some hx
   cases hv
   obtain ⟨b,c,ds,hyv,k2,k4,hrun⟩:=first_sound (P:=P) hr hy hold
   have hcc:c=cap:=by
    cases sa with
    | none =>
      have h1:y = .slice none len cap:=hy
      rw [hyv] at h1; cases h1; rfl
    | some ad =>
      obtain ⟨_,x,c',_,hcap,h1⟩:ad.spot=none/\∃ x c',θ ad.block=some x/\capR x.2.2 cap c'/\y = .slice (some ⟨x.1,x.2.1+ad.off,none⟩) len c':=(show SlR θ ad len cap y from hy).resolve_right fun q=>by have:=q.2.2.1; omega
      rw [hyv] at h1
      cases h1
      rcases hcap with ⟨_,h2⟩ | ⟨h2,_⟩
      .exact h2
      .omega
   obtain ⟨θ',w',u,nx,m1,m2,m3,m4,m5,_,_⟩:=grow b c old ds hyv (by omega) k2 k4 (hrun (w.drawn+1))
   exact ⟨θ',w',u,nx,m1,m2,m5,m4,m3⟩
  .have hroomy:=Nat.le_of_ble_eq_true hle
   cases sa with
   | none =>
     simp only at hx
     cases hz0:Nat.beq (len+n) 0<;>simp only [hz0,cond_true,cond_false] at hx
     .cases hx
     .cases hx
      have hn0:len+n=0:=Nat.eq_of_beq_eq_true hz0
      have h1:y = .slice none len cap:=hy
      exact opOk_same hr (hroom0 cap h1 (by omega) (by omega)) rfl
   | some b =>
     simp only at hx
     obtain ⟨h2,hst,hv⟩:=ob_some hx
     cases hv
     obtain ⟨hs,x,c',hxb,hcap,hyv⟩:b.spot=none/\∃ x c',θ b.block=some x/\capR x.2.2 cap c'/\y = .slice (some ⟨x.1,x.2.1+b.off,none⟩) len c':=(show SlR θ b len cap y from hy).resolve_right fun q=>by have:=q.2.2.1; omega
     obtain ⟨g1,g2,g3⟩:=store_sound (P:=P) hr hst (x:=x) hxb hnc
     rcases hcap with ⟨_,hc'⟩ | ⟨hge,_⟩
     .subst hc'
      refine ⟨θ,_,.slice (some ⟨x.1,x.2.1+b.off,none⟩) (len+n) c',_,hroom _ c' _ hyv hroomy ?_,.inl rfl,g3 nm,g2,.inl ⟨hs,x,c',hxb,.inl ⟨hltc,rfl⟩,rfl⟩⟩
      rw [add_addr,Nat.add_assoc]; exact g1
     .omega
theorem op_append [LG] {E:Env} (hE:EnvT E) {o:Oper} {nm:Nat} {θ:Th} {h h':Hp} {w:World} {a:Act} {T:Tm} {v:Value} (hr:HR θ h w) (ht:TO θ T a o) {c:Call} {sa:Option Addr} {len cap:Nat} {x:Value} {t u:TypeId} {ti ei ui:TI} {nc:Nat × List Value}
 (hnm:θ nm=none) (ho:o.op = .call c) (hc:c.callee = .builtin .append) (hv:opvs (opv T) c.args.toList=some [.slice sa len cap,x]) (htys:c.argTypes.toList=[t,u]) (hti:tget E.tt t=some ti) (hei:tget E.tt ti.elem=some ei) (hui:tget E.tt u=some ui)
 (hk:ti.kind=1) (hxk:appK ui.kind x=true) (hzl:ei.zero.length=ei.size) (hnew:newCells h ei x=some nc) (hx:xappend h nm ei sa len cap nc.1 nc.2=some (v,h')) :
 OpOk E.P o nm θ h w a v h':=by
 obtain ⟨i,d,z,fl,g1,g2,g3,g4,g5,rfl⟩:=ti_spec (hE _ _ hti)
 obtain ⟨i2,d2,z2,fs2,m1,m2,m3,m4,m5,rfl⟩:=ti_spec (hE _ _ hei)
 obtain ⟨i3,d3,z3,fs3,p1,p2,p3,p4,p5,rfl⟩:=ti_spec (hE _ _ hui)
 simp only at hk hei m1 m2 hzl hxk
 rw [kind_slice hk] at g2
 have hat:c.argTypes = #[t,u]:=by rw [<- Array.toArray_toList (xs:=c.argTypes),htys]
 have hw:=opvs_O (fun y hy=>ht y (by simp [ho,Op.operands,Call.operands]; exact .inr (by simpa using hy))) hv
 match hm:c.args.toList.map a.eval,hw with
 | [y,xv],hw =>
   have hrun:∀ {s:Value} {w':World},(Builtin.append_ #[t,u] o.type #[y,xv]).run E.P w = .ok s w'->(execOp a.eval o).run E.P w = .ok (.value s) w':=fun {s w'} hs =>
    run_builtin ho hc hm (s:=Builtin.append_ c.argTypes o.type #[y,xv]) (fun _=>rfl) (by rw [hat]; exact hs)
   cases x with
   | slice xa n xc =>
     have hd3:=kind_slice (Nat.eq_of_beq_eq_true hxk)
     rw [hd3] at p2
     have hoc:nc.1=n/\oldCells h i2.size xa n=some nc.2:=by
      cases xa with
      | none =>
        simp only [newCells] at hnew
        cases hn:Nat.beq n 0<;>simp [hn] at hnew
        subst hnew
        exact ⟨(Nat.eq_of_beq_eq_true hn).symm,by simp [oldCells,hn]⟩
      | some ad =>
        simp only [newCells] at hnew
        obtain ⟨cs,k1,k2⟩:=ob_some hnew
        cases k2
        exact ⟨rfl,k1⟩
     obtain ⟨hn1,hoc⟩:=hoc
     obtain ⟨b,xc',ns,hxv,k2,k4,hfirst⟩:=first_sound (P:=E.P) hr hw.2.1 hoc
     subst hxv
     rw [hn1] at hx
     refine append_core hr m1 m3 rfl rfl hzl hnm hw.1 k2 k4 ?_ ?_ ?_ hx
     .intro b' c' w' hy hroom hst
      subst hy
      exact hrun (app_room_slice w t u o.type _ i2 z2 g2 p2 m1 m3 b' len c' b n xc' ns (fun s'=>by
       by_cases e:s'=w
       .subst e; exact .inl (hfirst s'.drawn)
       .exact .inr e) hroom w' hst)
     .intro c' hy hl0 hn0
      subst hy; subst hl0; subst hn0
      have:=hfirst w.drawn
      refine hrun ?_
      simp at k4
      subst k4
      have hf:(Builtin.firstCells i2.size 0 (.slice b 0 xc')).run E.P w = .ok #[] w:=this
      simp [Builtin.append_,run_underlying g2,run_underlying p2,sizeOf,typeInfo,m1,Builtin.lenOf,hf]
     .intro b' c' olds hy hlt hold hb1 hb2
      subst hy
      exact hrun (app_grow_slice w t u o.type _ i2 z2 g2 p2 m1 m3 b' len c' b n xc' olds ns (hfirst (w.drawn+1)) hold hlt (by omega) (grow_fits hlt hb1 hb2))
   | int k n =>
     obtain ⟨k3,hd3⟩:=kind_int (Nat.eq_of_beq_eq_true hxk)
     rw [hd3] at p2
     have hxv:xv = .int k n:=hw.2.1
     subst hxv
     cases k<;>simp only [newCells,reduceCtorEq] at hnew
     case i64 =>
      cases hb:(decide (0<=n)&&decide (n<=1000000))<;>simp only [hb,cond_true,cond_false] at hnew
      .cases hnew
      .cases hnew
       simp only [Bool.and_eq_true,decide_eq_true_eq] at hb
       refine append_core hr m1 m3 rfl rfl hzl hnm hw.1 (plain_all2 (plain_lrep m5 n.toNat)) (by rw [lrep_length,hzl]) ?_ ?_ ?_ hx
       .intro b' c' w' hy hroom hst
        subst hy
        by_cases hbb:i2.bytes<=1000000
        .exact hrun (app_room_zeros w t u o.type _ i2 z2 g2 p2 m1 m3 hzl b' len c' n hb.1 hb.2 hbb hroom w' hst)
        .exfalso
         simp only [xappend] at hx
         have:Nat.ble i2.bytes 1000000=false:=by
          cases hq:Nat.ble i2.bytes 1000000
          .rfl
          .exact absurd (Nat.le_of_ble_eq_true hq) hbb
         simp [this] at hx
       .intro c' hy hl0 hn0
        subst hy; subst hl0
        have hn1:n=0:=by omega
        subst hn1
        refine hrun ?_
        have hw0:=wrap_small (n:=0) (by omega) (by omega)
        simp [Builtin.append_,run_underlying g2,run_underlying p2,sizeOf,typeInfo,m1,asInt,asIntOf,hw0]
       .intro b' c' olds hy hlt hold hb1 hb2
        subst hy
        exact hrun (app_grow_zeros w t u o.type _ i2 z2 g2 p2 m1 m3 hzl b' len c' n hb.1 hb.2 hb2 olds hold hlt (by omega) (grow_fits hlt hb1 hb2))
   | _=>cases hxk
theorem all2_two {α β:Type} {p:α->β->Prop} {a b:α}:∀ {l:List β},all2 p [a,b] l->∃ x y,l=[x,y]/\p a x/\p b y
 | [x,y],h=>⟨x,y,rfl,h.1,h.2.1⟩
 | [],h=>h.elim
 | [_],h=>h.2.elim
 | _ :: _ :: _ :: _,h=>h.2.2.elim
theorem hload_spot {h:Hp} {a:Addr} {n:Nat} {cs:List Value} (hl:hload h a n=some cs):a.spot=none:=by
 unfold hload at hl
 split at hl
 .rename_i h1 _; exact h1
 .cases hl
theorem hstore_spot {h h':Hp} {a:Addr} {cs:List Value} (hl:hstore h a cs=some h'):a.spot=none:=by
 unfold hstore at hl
 split at hl
 .rename_i h1 _; exact h1
 .cases hl
theorem op_copy [LG] {E:Env} (hE:EnvT E) {o:Oper} {nm:Nat} {θ:Th} {h h':Hp} {w:World} {a:Act} {T:Tm} (hr:HR θ h w) (ht:TO θ T a o) {c:Call} {ad bd:Addr} {len cap n k:Nat} {t u:TypeId} {ti ei:TI} {cs:List Value}
 (ho:o.op = .call c) (hc:c.callee = .builtin .copy) (hv:opvs (opv T) c.args.toList=some [.slice (some ad) len cap,.slice (some bd) n k]) (htys:c.argTypes.toList=[t,u]) (hti:tget E.tt t=some ti) (hei:tget E.tt ti.elem=some ei)
 (hk:ti.kind=1) (hl:hload h bd (min n len*ei.size)=some cs) (hs:hstore h ad cs=some h'):OpOk E.P o nm θ h w a (.int .i64 (min n len:Nat)) h':=by
 obtain ⟨i,d,z,fl,g1,g2,g3,g4,g5,rfl⟩:=ti_spec (hE _ _ hti)
 obtain ⟨i2,d2,z2,fs2,m1,m2,m3,m4,m5,rfl⟩:=ti_spec (hE _ _ hei)
 simp only at hk hei m1 m2 hl
 rw [kind_slice hk] at g2
 have hat:c.argTypes = #[t,u]:=by rw [<- Array.toArray_toList (xs:=c.argTypes),htys]
 have hw:=opvs_O (fun y hy=>ht y (by simp [ho,Op.operands,Call.operands]; exact .inr (by simpa using hy))) hv
 obtain ⟨y,xv,hm,hw1,hw2⟩:=all2_two hw
 .obtain ⟨_,x1,c1,hx1,_,rfl⟩:ad.spot=none/\∃ x c',θ ad.block=some x/\capR x.2.2 cap c'/\y = .slice (some ⟨x.1,x.2.1+ad.off,none⟩) len c':=SlR.here hw1 (hstore_spot hs)
  obtain ⟨_,x2,c2,hx2,_,rfl⟩:bd.spot=none/\∃ x c',θ bd.block=some x/\capR x.2.2 k c'/\xv = .slice (some ⟨x.1,x.2.1+bd.off,none⟩) n c':=SlR.here hw2 (hload_spot hl)
  obtain ⟨ds,k1,k2,k3,k4⟩:=load_sound (P:=E.P) hr hl hx2
  obtain ⟨q1,q2,q3⟩:=store_sound (P:=E.P) hr hs hx1 k2
  refine ⟨θ,_,.int .i64 (min n len:Nat),_,run_builtin ho hc hm (s:=Builtin.copy_ c.argTypes o.type #[.slice (some ⟨x1.1,x1.2.1+ad.off,none⟩) len c1,.slice (some ⟨x2.1,x2.2.1+bd.off,none⟩) n c2]) (fun _=>rfl) ?_,.inl rfl,q3 nm,q2,rfl⟩
  have hmin:Nat.min n len=min n len:=rfl
  simp [Builtin.copy_,hat,run_underlying g2,Builtin.lenOf,Builtin.firstCells,run_sizeOf m1,hmin,k1,q1,goInt]
theorem op_copy_none [LG] {E:Env} (hE:EnvT E) {o:Oper} {nm:Nat} {θ:Th} {h:Hp} {w:World} {a:Act} {T:Tm} (hr:HR θ h w) (ht:TO θ T a o) {c:Call} {ad bd:Option Addr} {len cap n k:Nat} {t u:TypeId} {ti ei:TI}
 (ho:o.op = .call c) (hc:c.callee = .builtin .copy) (hv:opvs (opv T) c.args.toList=some [.slice ad len cap,.slice bd n k]) (htys:c.argTypes.toList=[t,u]) (hti:tget E.tt t=some ti) (hei:tget E.tt ti.elem=some ei)
 (hk:ti.kind=1) (hz:min n len=0):OpOk E.P o nm θ h w a (.int .i64 0) h:=by
 obtain ⟨i,d,z,fl,g1,g2,g3,g4,g5,rfl⟩:=ti_spec (hE _ _ hti)
 obtain ⟨i2,d2,z2,fs2,m1,m2,m3,m4,m5,rfl⟩:=ti_spec (hE _ _ hei)
 simp only at hk hei m1 m2
 rw [kind_slice hk] at g2
 have hat:c.argTypes = #[t,u]:=by rw [<- Array.toArray_toList (xs:=c.argTypes),htys]
 have hw:=opvs_O (fun y hy=>ht y (by simp [ho,Op.operands,Call.operands]; exact .inr (by simpa using hy))) hv
 match hm:c.args.toList.map a.eval,hw with
 | [y,xv],hw =>
   have hy:∀ (sa:Option Addr) (l c0:Nat) (yv:Value),W θ (.slice sa l c0) yv->∃ x c',yv = .slice x l c':=by
    intro sa l c0 yv hh
    cases sa with
    | none=>exact ⟨none,c0,hh⟩
    | some ad=>obtain ⟨x,c',e,_⟩:=SlR.some hh; exact ⟨_,c',e⟩
   obtain ⟨x1,c1,rfl⟩:=hy _ _ _ _ hw.1
   obtain ⟨x2,c2,rfl⟩:=hy _ _ _ _ hw.2.1
   refine opOk_same hr (u:=.int .i64 0) (run_builtin ho hc hm (s:=Builtin.copy_ c.argTypes o.type #[.slice x1 len c1,.slice x2 n c2]) (fun _=>rfl) ?_) rfl
   have hmin:Nat.min n len=0:=hz
   cases x1<;>cases x2<;>simp [Builtin.copy_,hat,run_underlying g2,Builtin.lenOf,Builtin.firstCells,run_sizeOf m1,hmin,goInt,loadCells,loadCellsFrom,storeCells]
theorem eq_slice_l {P:Program} {t e:TypeId} (hu:P.underlying t=some (.slice e)) (d l c l' c':Nat) (b:Addr) (w:World):(Op.equalIn (d+1) t (.slice none l c) (.slice (some b) l' c')).run P w = .ok false w:=by
 rw [Op.equalIn]
 simp only [Sem.run_bind,run_underlying hu,Result.andThen_ok]
 rfl
theorem eq_slice_r {P:Program} {t e:TypeId} (hu:P.underlying t=some (.slice e)) (d l c l' c':Nat) (b:Addr) (w:World):(Op.equalIn (d+1) t (.slice (some b) l c) (.slice none l' c')).run P w = .ok false w:=by
 rw [Op.equalIn]
 simp only [Sem.run_bind,run_underlying hu,Result.andThen_ok]
 rfl
theorem eq_ptr_l {P:Program} {t e:TypeId} (hu:P.underlying t=some (.pointer e)) (d:Nat) (b:Addr) (w:World):(Op.equalIn (d+1) t (.pointer none) (.pointer (some b))).run P w = .ok false w:=by
 rw [Op.equalIn]
 simp only [Sem.run_bind,run_underlying hu,Result.andThen_ok]
 rfl
theorem eq_ptr_r {P:Program} {t e:TypeId} (hu:P.underlying t=some (.pointer e)) (d:Nat) (b:Addr) (w:World):(Op.equalIn (d+1) t (.pointer (some b)) (.pointer none)).run P w = .ok false w:=by
 rw [Op.equalIn]
 simp only [Sem.run_bind,run_underlying hu,Result.andThen_ok]
 rfl
theorem eq_func_r {P:Program} {t:TypeId} {p q:Array TypeId} {v:Bool} (hu:P.underlying t=some (.func p q v)) (d:Nat) (fn:Fn) (x y:Array Value) (w:World):(Op.equalIn (d+1) t (.func fn x y) .nilFunc).run P w = .ok false w:=by
 rw [Op.equalIn]
 simp only [Sem.run_bind,run_underlying hu,Result.andThen_ok]
 rfl
theorem eq_func_l {P:Program} {t:TypeId} {p q:Array TypeId} {v:Bool} (hu:P.underlying t=some (.func p q v)) (d:Nat) (fn:Fn) (x y:Array Value) (w:World):(Op.equalIn (d+1) t .nilFunc (.func fn x y)).run P w = .ok false w:=by
 rw [Op.equalIn]
 simp only [Sem.run_bind,run_underlying hu,Result.andThen_ok]
 rfl
theorem bin_of_equal {P:Program} {t:TypeId} {p q:Value} (hb1:binOp .eql t p q=(do pure (.bool (<- Op.equal t p q)))) (hb2:binOp .neq t p q=(do pure (.bool (!(<- Op.equal t p q))))) (he:∀ w,(Op.equal t p q).run P w = .ok false w) :
 (∀ w,(binOp .eql t p q).run P w = .ok (.bool false) w)/\(∀ w,(binOp .neq t p q).run P w = .ok (.bool (!false)) w) :=
 ⟨fun w=>by rw [hb1]; simp only [Sem.run_bind,he,Result.andThen_ok]; rfl,fun w=>by rw [hb2]; simp only [Sem.run_bind,he,Result.andThen_ok]; rfl⟩
theorem op_nilEq [LG] {E:Env} (hE:EnvT E) {o:Oper} {nm:Nat} {θ:Th} {h:Hp} {w:World} {a:Act} {T:Tm} (hr:HR θ h w) (ht:TO θ T a o) {op:BinOp} {t t2:TypeId} {x y:Operand} {p q:Value} {ti:TI} {r:Bool} (ho:o.op = .binOp op t x y t2)
 (hx:opv T x=some p) (hy:opv T y=some q) (hti:tget E.tt t=some ti) (hk:nilKind ti.kind p=true) (hn:nilEq p q=some r) (hop:op = .eql\/op = .neq):OpOk E.P o nm θ h w a (.bool (if op = .eql then r else !r)) h:=by
 obtain ⟨i,d,z,fl,g1,g2,g3,g4,g5,rfl⟩:=ti_spec (hE _ _ hti)
 simp only at hk
 have hwx:=ht _ (by simp [ho,Op.operands]) _ hx
 have hwy:=ht _ (by simp [ho,Op.operands]) _ hy
 have key:∃ p' q',a.eval x=p'/\a.eval y=q'/\(∀ w,(Op.equal t p' q').run E.P w = .ok r w)/\(∀ op',(eqGuard op' t x y p' q').run E.P w = .ok () w)/\(∀ w,(binOp .eql t p' q').run E.P w = .ok (.bool r) w)/\(∀ w,(binOp .neq t p' q').run E.P w = .ok (.bool (!r)) w):=by
  cases p<;>simp only [nilKind,Bool.false_eq_true] at hk
  case slice sa l c =>
   have hd:=kind_slice (Nat.eq_of_beq_eq_true hk)
   rw [hd] at g2
   cases sa with
   | none =>
     cases q<;>simp only [nilEq,reduceCtorEq] at hn
     case slice sb l' c' =>
      cases sb with
      | none=>simp [nilEq] at hn
      | some bd =>
        simp [nilEq] at hn
        subst hn
        obtain ⟨xx,cc,e,_⟩:=SlR.some hwy
        have e0:a.eval x = .slice none l c:=hwx
        have he:∀ w,(Op.equal t (.slice none l c) (.slice (some xx) l' cc)).run E.P w = .ok false w:=fun w=>eq_slice_l g2 9999 _ _ _ _ _ w
        refine ⟨_,_,e0,e,he,fun op'=>by cases op'<;>rfl,(bin_of_equal rfl rfl he).1,(bin_of_equal rfl rfl he).2⟩
   | some ad =>
     cases q<;>simp only [nilEq,reduceCtorEq] at hn
     case slice sb l' c' =>
      cases sb with
      | some bd=>simp [nilEq] at hn
      | none =>
        simp [nilEq] at hn
        subst hn
        obtain ⟨xx,cc,e,_⟩:=SlR.some hwx
        have e0:a.eval y = .slice none l' c':=hwy
        have he:∀ w,(Op.equal t (.slice (some xx) l cc) (.slice none l' c')).run E.P w = .ok false w:=fun w=>eq_slice_r g2 9999 _ _ _ _ _ w
        refine ⟨_,_,e,e0,he,fun op'=>by cases op'<;>rfl,(bin_of_equal rfl rfl he).1,(bin_of_equal rfl rfl he).2⟩
  case pointer sa =>
   have hd:=kind_pointer (Nat.eq_of_beq_eq_true hk)
   rw [hd] at g2
   cases sa with
   | none =>
     cases q<;>simp only [nilEq,reduceCtorEq] at hn
     case pointer sb =>
      cases sb with
      | none=>simp [nilEq] at hn
      | some bd =>
        simp [nilEq] at hn
        subst hn
        obtain ⟨_,xx,_,e⟩:=hwy
        have e0:a.eval x = .pointer none:=hwx
        have he:∀ w,(Op.equal t (.pointer none) (.pointer (some ⟨xx.1,xx.2.1+bd.off,none⟩))).run E.P w = .ok false w:=fun w=>eq_ptr_l g2 9999 _ w
        refine ⟨_,_,e0,e,he,fun op'=>by cases op'<;>rfl,(bin_of_equal rfl rfl he).1,(bin_of_equal rfl rfl he).2⟩
   | some ad =>
     cases q<;>simp only [nilEq,reduceCtorEq] at hn
     case pointer sb =>
      cases sb with
      | some bd=>simp [nilEq] at hn
      | none =>
        simp [nilEq] at hn
        subst hn
        obtain ⟨_,xx,_,e⟩:=hwx
        have e0:a.eval y = .pointer none:=hwy
        have he:∀ w,(Op.equal t (.pointer (some ⟨xx.1,xx.2.1+ad.off,none⟩)) (.pointer none)).run E.P w = .ok false w:=fun w=>eq_ptr_r g2 9999 _ w
        refine ⟨_,_,e,e0,he,fun op'=>by cases op'<;>rfl,(bin_of_equal rfl rfl he).1,(bin_of_equal rfl rfl he).2⟩
  case func fn f1 f2 =>
   obtain ⟨da,db,dc,hd⟩:=kind_func (Nat.eq_of_beq_eq_true hk)
   rw [hd] at g2
   cases q<;>simp only [nilEq,reduceCtorEq,Option.some.injEq] at hn
   subst hn
   obtain ⟨fn',fa,fb,e⟩:=W_func hwx
   have e0:a.eval y = .nilFunc:=hwy
   have he:∀ w,(Op.equal t (.func fn' fa fb) .nilFunc).run E.P w = .ok false w:=fun w=>eq_func_r g2 9999 _ _ _ w
   refine ⟨_,_,e,e0,he,fun op'=>by cases op'<;>rfl,(bin_of_equal rfl rfl he).1,(bin_of_equal rfl rfl he).2⟩
  case nilFunc =>
   obtain ⟨da,db,dc,hd⟩:=kind_func (Nat.eq_of_beq_eq_true hk)
   rw [hd] at g2
   cases q<;>simp only [nilEq,reduceCtorEq,Option.some.injEq] at hn
   case func fn f1 f2 =>
   subst hn
   obtain ⟨fn',fa,fb,e⟩:=W_func hwy
   have e0:a.eval x = .nilFunc:=hwx
   have he:∀ w,(Op.equal t .nilFunc (.func fn' fa fb)).run E.P w = .ok false w:=fun w=>eq_func_l g2 9999 _ _ _ w
   refine ⟨_,_,e0,e,he,fun op'=>by cases op'<;>rfl,(bin_of_equal rfl rfl he).1,(bin_of_equal rfl rfl he).2⟩
 obtain ⟨p',q',e1,e2,k1,k2,k3,k4⟩:=key
 rcases hop with rfl | rfl
 .refine opOk_same hr (u:=.bool r) ?_ rfl
  simp [execOp,ho,e1,e2,k2,k3]
 .refine opOk_same hr (u:=.bool (!r)) ?_ rfl
  simp [execOp,ho,e1,e2,k2,k4]
def OptN (ov:Option Value) (d l:Nat):Prop:=(ov=none/\l=d)\/∃ k n,ov=some (.int k n)/\0<=n/\l=Int.toNat n
theorem opt_nat {θ:Th} {T:Tm} {a:Act} {lo:Option Operand} {lov:Option Value} {d l:Nat} (ht:∀ y,lo=some y->∀ v,opv T y=some v->W θ v (a.eval y)) (h1:optv (opv T) lo=some lov) (h2:natOf d lov=some l):OptN (lo.map a.eval) d l:=by
 cases lo with
 | none =>
   simp only [optv,Option.some.injEq] at h1
   subst h1
   simp only [natOf,Option.some.injEq] at h2
   exact .inl ⟨rfl,h2.symm⟩
 | some x =>
   simp only [optv] at h1
   split at h1
   .rename_i u hu
    cases h1
    cases u<;>simp only [natOf,reduceCtorEq] at h2
    case int k n =>
     cases hb:decide (0<=n)<;>simp only [hb,cond_true,cond_false,reduceCtorEq,Option.some.injEq] at h2
     have hw:a.eval x = .int k n:=ht x rfl _ hu
     exact .inr ⟨k,n,by simp [hw],of_decide_eq_true hb,h2.symm⟩
   .cases h1
theorem run_sliceBound {P:Program} {w:World} {k:IntKind} {n:Int} {y:Nat} {code:BoundsCode} (h0:0<=n) (h1:n.toNat<=y):(Instr.sliceBound (.int k n) y code).run P w = .ok n.toNat w:=by
 have:n<=(y:Int):=by omega
 simp [Instr.sliceBound,asIntOf,h0,this]
theorem run_slice2 {P:Program} {w:World} {t e:TypeId} {i:TypeInfo} (hu:P.underlying t=some (.slice e)) (hi:P.info? e=some i) {sa:Option Addr} {len cap l u:Nat} {low high:Option Value}
 (hl:OptN low 0 l) (hh:OptN high len u) (h1:l<=u) (h2:u<=cap) :
 (Instr.sliceAt t (.slice sa len cap) low high none).run P w = .ok (.slice (if cap=l then sa else sa.map (·.add (l*i.size))) (u-l) (cap-l)) w:=by
 rcases hl with ⟨rfl,rfl⟩ | ⟨k1,n1,rfl,g1,rfl⟩<;>rcases hh with ⟨rfl,rfl⟩ | ⟨k2,n2,rfl,g2,rfl⟩
 .simp [Instr.sliceAt,Instr.slice,Instr.sliceBounds,run_underlying hu,run_sizeOf hi]
 .simp [Instr.sliceAt,Instr.slice,Instr.sliceBounds,run_underlying hu,run_sizeOf hi,run_sliceBound g2 h2]
 .simp [Instr.sliceAt,Instr.slice,Instr.sliceBounds,run_underlying hu,run_sizeOf hi,run_sliceBound g1 h1]
 .simp [Instr.sliceAt,Instr.slice,Instr.sliceBounds,run_underlying hu,run_sizeOf hi,run_sliceBound g1 h1,run_sliceBound g2 h2]
theorem run_slice3 {P:Program} {w:World} {t e:TypeId} {i:TypeInfo} (hu:P.underlying t=some (.slice e)) (hi:P.info? e=some i) {sa:Option Addr} {len cap l:Nat} {low:Option Value} {k2 k3:IntKind} {n2 n3:Int}
 (hl:OptN low 0 l) (g2:0<=n2) (g3:0<=n3) (h1:l<=n2.toNat) (h2:n2.toNat<=n3.toNat) (h3:n3.toNat<=cap) :
 (Instr.sliceAt t (.slice sa len cap) low (some (.int k2 n2)) (some (.int k3 n3))).run P w = .ok (.slice (if n3.toNat=l then sa else sa.map (·.add (l*i.size))) (n2.toNat-l) (n3.toNat-l)) w:=by
 rcases hl with ⟨rfl,rfl⟩ | ⟨k1,n1,rfl,g1,rfl⟩
 .simp [Instr.sliceAt,Instr.slice,Instr.sliceBounds,run_underlying hu,run_sizeOf hi,run_sliceBound g2 h2,run_sliceBound g3 h3]
 .simp [Instr.sliceAt,Instr.slice,Instr.sliceBounds,run_underlying hu,run_sizeOf hi,run_sliceBound g1 h1,run_sliceBound g2 h2,run_sliceBound g3 h3]
theorem capLow_le [LG] {θ:Th} {h:Hp} {w:World} (hr:HR θ h w) {ad:Addr} {cap sz c c':Nat} {x:Nat × Nat × Nat} (hx:θ ad.block=some x) (hc:capLow h ad cap sz=some c) (hcap:capR x.2.2 cap c'):c<=c':=by
 unfold capLow at hc
 cases hb:Nat.blt cap unkU<;>simp only [hb,cond_true,cond_false] at hc
 .split at hc
  .cases hc
  .rename_i e he
   cases hq:(Nat.beq e.unk sz&&Nat.beq ad.off ((cap-unkU)*sz)&&Nat.ble 1 sz&&Nat.ble ad.off e.len)<;>simp only [hq,cond_true,cond_false,reduceCtorEq,Option.some.injEq] at hc
   simp only [Bool.and_eq_true] at hq
   have q1:e.unk=sz:=Nat.eq_of_beq_eq_true hq.1.1.1
   have q2:ad.off=(cap-unkU)*sz:=Nat.eq_of_beq_eq_true hq.1.1.2
   have q3:1<=sz:=Nat.le_of_ble_eq_true hq.1.2
   obtain ⟨y,hy⟩:∃ y,y=x:=⟨x,rfl⟩
   subst hy
   have r:=hr.ent _ _ _ he hx
   have hroom:=(r.room (by omega)).1
   rw [q1] at hroom
   rcases hcap with ⟨g,_⟩ | ⟨g,hcc⟩
   .have:Nat.blt cap unkU=true:=by unfold Nat.blt; exact Nat.ble_eq_true_of_le g
    rw [this] at hb; cases hb
   .generalize hs:cap-unkU=sub at q2 hcc
    subst hc
    rw [hcc]
    have h1:(e.len-ad.off)/sz<=(y.2.2*sz-sub*sz)/sz:=Nat.div_le_div_right (by omega)
    rw [<- Nat.sub_mul,Nat.mul_div_cancel _ q3] at h1
    exact h1
 .cases hc
  have hlt:cap<unkU:=by unfold Nat.blt at hb; exact Nat.le_of_ble_eq_true hb
  rcases hcap with ⟨_,rfl⟩ | ⟨g,_⟩
  .exact Nat.le_refl _
  .omega
theorem op_slice [LG] {E:Env} (hE:EnvT E) {o:Oper} {nm:Nat} {θ:Th} {h:Hp} {w:World} {a:Act} {T:Tm} {v:Value} (hr:HR θ h w) (ht:TO θ T a o) {t:TypeId} {x:Operand} {lo hi mx:Option Operand} {lov hiv mxv:Option Value} {sa:Option Addr} {len cap:Nat} {ti ei:TI}
 (ho:o.op = .slice t x lo hi mx) (hx:opv T x=some (.slice sa len cap)) (hti:tget E.tt t=some ti) (hei:tget E.tt ti.elem=some ei) (hk:ti.kind=1)
 (hlo:optv (opv T) lo=some lov) (hhi:optv (opv T) hi=some hiv) (hmx:optv (opv T) mx=some mxv) (hv:xslice h ei.size sa len cap lov hiv mxv=some v):OpOk E.P o nm θ h w a v h:=by
 obtain ⟨i,d,z,fl,g1,g2,g3,g4,g5,rfl⟩:=ti_spec (hE _ _ hti)
 obtain ⟨i2,d2,z2,fs2,m1,m2,m3,m4,m5,rfl⟩:=ti_spec (hE _ _ hei)
 simp only at hk hei m1 m2 hv
 rw [kind_slice hk] at g2
 have hwx:=ht _ (by simp [ho,Op.operands]) _ hx
 have hrun:∀ {u:Value},(Instr.sliceAt t (a.eval x) (lo.map a.eval) (hi.map a.eval) (mx.map a.eval)).run E.P w = .ok u w->(execOp a.eval o).run E.P w = .ok (.value u) w:=fun {u} hs=>by simp [execOp,ho,hs]
 unfold xslice at hv
 split at hv
 .
  have hmn:mx.map a.eval=none:=by
   cases mx with
   | none=>rfl
   | some m =>
     simp only [optv] at hmx
     split at hmx<;>cases hmx
  split at hv
  .rename_i l1 l2
   cases hv
   have e0:a.eval x = .slice none len cap:=hwx
   have n1:=opt_nat (fun y hy v=>ht y (by simp [ho,Op.operands,hy]) v) hlo l1
   have n2:=opt_nat (fun y hy v=>ht y (by simp [ho,Op.operands,hy]) v) hhi l2
   refine opOk_same hr (u:=.slice none 0 cap) (hrun ?_) rfl
   rw [e0,hmn,run_slice2 g2 m1 n1 n2 (Nat.le_refl _) (Nat.zero_le _)]
   simp
  .cases hv
 .rename_i b
  have hmn:mx.map a.eval=none:=by
   cases mx with
   | none=>rfl
   | some m =>
     simp only [optv] at hmx
     split at hmx<;>cases hmx
  cases hsn:b.spot.isNone with
  | false =>
    rw [hsn,cond_false] at hv
    split at hv
    .rename_i l1 l2
     cases hv
     have n1:=opt_nat (fun y hy v=>ht y (by simp [ho,Op.operands,hy]) v) hlo l1
     have n2:=opt_nat (fun y hy v=>ht y (by simp [ho,Op.operands,hy]) v) hhi l2
     have hne:b.spot≠none:=fun e=>by rw [e] at hsn; cases hsn
     rcases (show SlR θ b len cap (a.eval x) from hwx) with ⟨q,_⟩ | ⟨_,hl0,q2,ad,c',e0⟩
     .exact absurd q hne
     .subst hl0
      have hr2:=run_slice2 (P:=E.P) (w:=w) (cap:=c') g2 m1 (sa:=some ad) n1 n2 (Nat.le_refl 0) (Nat.zero_le _)
      refine opOk_same hr (hrun (by rw [e0,hmn]; exact hr2)) (.inr ⟨hne,rfl,q2,?_⟩)
      by_cases q:c'=0
      .exact ⟨_,_,by rw [if_pos q]⟩
      .exact ⟨_,_,by rw [if_neg q]; rfl⟩
    .cases hv
  | true =>
  rw [hsn,cond_true] at hv
  have hbs:b.spot=none:=by simpa using hsn
  obtain ⟨hs,xx,c',hxx,hcap,e0⟩:b.spot=none/\∃ xx c',θ b.block=some xx/\capR xx.2.2 cap c'/\a.eval x = .slice (some ⟨xx.1,xx.2.1+b.off,none⟩) len c':=SlR.here hwx hbs
  split at hv
  .rename_i l u c l1 l2 l3
   have n1:=opt_nat (fun y hy v=>ht y (by simp [ho,Op.operands,hy]) v) hlo l1
   have n2:=opt_nat (fun y hy v=>ht y (by simp [ho,Op.operands,hy]) v) hhi l2
   have hcl:=capLow_le hr hxx l3 hcap
   cases hq:(Nat.ble l u&&Nat.ble u c&&Nat.ble len c&&true)<;>simp only [hq,cond_true,cond_false,reduceCtorEq] at hv
   simp only [Bool.and_eq_true] at hq
   have q1:=Nat.le_of_ble_eq_true hq.1.1.1
   have q2:=Nat.le_of_ble_eq_true hq.1.1.2
   have hr2:=run_slice2 (P:=E.P) (w:=w) g2 m1 (sa:=some ⟨xx.1,xx.2.1+b.off,none⟩) n1 n2 q1 (Nat.le_trans q2 hcl)
   cases hlt:Nat.blt cap unkU<;>simp only [hlt,cond_true,cond_false] at hv
   .have hge:unkU<=cap:=by
     rcases Nat.lt_or_ge cap unkU with g | g
     .have:Nat.blt cap unkU=true:=by unfold Nat.blt; exact Nat.ble_eq_true_of_le g
      rw [this] at hlt; cases hlt
     .exact g
    rcases hcap with ⟨g,_⟩ | ⟨_,hcc⟩
    .omega
    cases hlc:Nat.blt l c<;>simp only [hlc,cond_true,cond_false] at hv
    .cases hl0:Nat.beq l 0<;>simp only [hl0,cond_true,cond_false,reduceCtorEq,Option.some.injEq] at hv
     .subst hv
      have hll:¬ l<c:=fun q=>by rw [show Nat.blt l c=true from Nat.ble_eq_true_of_le q] at hlc; cases hlc
      have hul:u-l=0:=by omega
      refine opOk_same hr (hrun (by rw [e0,hmn]; exact hr2)) (.inr ⟨by simp,rfl,Nat.le_refl _,?_⟩)
      rw [hul]
      by_cases q:c'=l
      .exact ⟨_,_,by rw [if_pos q]⟩
      .exact ⟨_,_,by rw [if_neg q]; rfl⟩
     have e1:l=0:=Nat.eq_of_beq_eq_true hl0
     subst hv; subst e1
     refine opOk_same hr (hrun (by rw [e0,hmn]; exact hr2)) ?_
     refine .inl ⟨hs,xx,c',hxx,.inr ⟨hge,hcc⟩,?_⟩
     simp [add_addr]
    .have hll:l<c:=by unfold Nat.blt at hlc; exact Nat.le_of_ble_eq_true hlc
     cases hv
     refine opOk_same hr (hrun (by rw [e0,hmn]; exact hr2)) ?_
     refine .inl ⟨rfl,xx,c'-l,hxx,.inr ⟨by omega,?_⟩,?_⟩
     .rw [hcc]
      have e3:cap+l-unkU=(cap-unkU)+l:=by omega
      rw [e3,Nat.sub_add_eq]
     .rw [if_neg (by omega)]
      simp [add_addr,Nat.add_assoc]
   .have hlt':cap<unkU:=by unfold Nat.blt at hlt; exact Nat.le_of_ble_eq_true hlt
    rcases hcap with ⟨_,hcc⟩ | ⟨g,_⟩
    .subst hcc
     cases hv
     refine opOk_same hr (hrun (by rw [e0,hmn]; exact hr2)) ?_
     cases hcl':Nat.beq c' l
     .have hne:c'≠l:=fun e=>by rw [e] at hcl'; simp at hcl'
      refine .inl ⟨rfl,xx,c'-l,hxx,.inl ⟨by omega,rfl⟩,?_⟩
      rw [if_neg hne]
      simp [add_addr,Nat.add_assoc]
     .have he:c'=l:=Nat.eq_of_beq_eq_true hcl'
      refine .inl ⟨hs,xx,c'-l,hxx,.inl ⟨by omega,rfl⟩,?_⟩
      rw [if_pos he]; rfl
    .omega
  .cases hv
 .rename_i b m
  have hbs:b.spot=none:=by
   have hv:=hv
   split at hv
   .rename_i l u y c l1 l2 l3 l4
    cases hq:(Nat.ble l u&&Nat.ble u y&&Nat.ble y c&&Nat.blt cap unkU&&b.spot.isNone)<;>simp only [hq,cond_true,cond_false,reduceCtorEq] at hv
    simp only [Bool.and_eq_true] at hq
    simpa using hq.2
   .cases hv
  obtain ⟨hs,xx,c',hxx,hcap,e0⟩:b.spot=none/\∃ xx c',θ b.block=some xx/\capR xx.2.2 cap c'/\a.eval x = .slice (some ⟨xx.1,xx.2.1+b.off,none⟩) len c':=SlR.here hwx hbs
  split at hv
  .rename_i l u y c l1 l2 l3 l4
   have n1:=opt_nat (fun y hy v=>ht y (by simp [ho,Op.operands,hy]) v) hlo l1
   have hl2:hiv≠none/\natOf 0 hiv=some u:=by
    cases hiv with
    | none=>cases l2
    | some hvv=>exact ⟨by simp,l2⟩
   have n2:=opt_nat (fun y hy v=>ht y (by simp [ho,Op.operands,hy]) v) hhi hl2.2
   have n3:=opt_nat (fun y hy v=>ht y (by simp [ho,Op.operands,hy]) v) hmx l3
   have hcl:=capLow_le hr hxx l4 hcap
   cases hq:(Nat.ble l u&&Nat.ble u y&&Nat.ble y c&&Nat.blt cap unkU&&b.spot.isNone)<;>simp only [hq,cond_true,cond_false,reduceCtorEq] at hv
   simp only [Bool.and_eq_true] at hq
   have q1:=Nat.le_of_ble_eq_true hq.1.1.1.1
   have q2:=Nat.le_of_ble_eq_true hq.1.1.1.2
   have q3:=Nat.le_of_ble_eq_true hq.1.1.2
   have hlt':cap<unkU:=by have:=hq.1.2; unfold Nat.blt at this; exact Nat.le_of_ble_eq_true this
   rcases hcap with ⟨_,hcc⟩ | ⟨g,_⟩
   .subst hcc
    rcases n3 with ⟨e3,_⟩ | ⟨k3,j3,e3,p3,r3⟩
    .exfalso
     cases mx with
     | none=>simp [optv] at hmx
     | some mm=>simp at e3
    .rcases n2 with ⟨e2,r2⟩ | ⟨k2,j2,e2,p2,r2⟩
     .exfalso
      cases hi with
      | none=>simp only [optv,Option.some.injEq] at hhi; exact hl2.1 hhi.symm
      | some mm=>simp at e2
     .subst r3; subst r2
      have hr3:=run_slice3 (P:=E.P) (w:=w) g2 m1 (sa:=some ⟨xx.1,xx.2.1+b.off,none⟩) (len:=len) n1 p2 p3 q1 q2 (Nat.le_trans q3 hcl) (k2:=k2) (k3:=k3)
      cases hv
      refine opOk_same hr (hrun (by rw [e0,e2,e3]; exact hr3)) ?_
      cases hcl':Nat.beq j3.toNat l
      .have hne:j3.toNat≠l:=fun e=>by rw [e] at hcl'; simp at hcl'
       refine .inl ⟨rfl,xx,j3.toNat-l,hxx,.inl ⟨by omega,rfl⟩,?_⟩
       rw [if_neg hne]
       simp [add_addr,Nat.add_assoc]
      .have he:j3.toNat=l:=Nat.eq_of_beq_eq_true hcl'
       refine .inl ⟨hs,xx,j3.toNat-l,hxx,.inl ⟨by omega,rfl⟩,?_⟩
       rw [if_pos he]; rfl
   .omega
  .cases hv
 .cases hv
theorem HR.put_free [LG] {θ:Th} {h:Hp} {w:World} (hr:HR θ h w) {D:Nat} (o:Obj) (hD:∀ n e x,tget h.m n=some e->θ n=some x->x.1≠D):HR θ h (w.putObj D o):=by
 refine ⟨fun n e x he hx=>?_,hr.sep,hr.fresh⟩
 have r:=hr.ent n e x he hx
 have hk:(w.putObj D o).heap[x.1]? = w.heap[x.1]?:=World.putObj_heap_other (hD n e x he hx)
 refine ⟨r.at_,by rw [World.putObj_size]; exact r.lt,fun i v hv=>?_,fun q hq=>(by rw [hk]; exact r.ob q hq),fun hu=>?_⟩
 .rw [World.cell?_of_block (w:=w) hk,World.frozen?_of_block (w:=w) hk]; exact r.cell i v hv
 .obtain ⟨h1,h2⟩:=r.room hu
  refine ⟨h1,fun i hi=>?_⟩
  rw [World.cell?_of_block (w:=w) hk,World.frozen?_of_block (w:=w) hk]; exact h2 i hi
theorem Ext.put_free {nm:Nat} {θ θ':Th} {h h':Hp} {w w':World} (e:Ext nm θ h w θ' h' w') {D:Nat} (o:Obj) (hD:w.heap.size<=D):Ext nm θ h w θ' h' (w'.putObj D o) :=
 ⟨e.keep,e.only,e.nxt,by rw [World.putObj_size]; exact e.size,e.tape,e.os,e.output,fun b hb hno=>(World.putObj_heap_other (by omega)).trans (e.frame b hb hno),e.ownw,e.own⟩
theorem HR.alloc_free [LG] {θ:Th} {h:Hp} {w:World} (hr:HR θ h w) (o:Obj):HR θ h (w.alloc o):=by
 refine ⟨fun n e x he hx=>?_,hr.sep,hr.fresh⟩
 have r:=hr.ent n e x he hx
 have hk:(w.alloc o).heap[x.1]? = w.heap[x.1]?:=Below.heap_alloc _ _ _ r.lt
 refine ⟨r.at_,by have:=r.lt; simp; omega,fun i v hv=>?_,fun q hq=>(by rw [hk]; exact r.ob q hq),fun hu=>?_⟩
 .rw [World.cell?_of_block (w:=w) hk,World.frozen?_of_block (w:=w) hk]; exact r.cell i v hv
 .obtain ⟨h1,h2⟩:=r.room hu
  refine ⟨h1,fun i hi=>?_⟩
  rw [World.cell?_of_block (w:=w) hk,World.frozen?_of_block (w:=w) hk]; exact h2 i hi
theorem Ext.alloc_free (nm:Nat) (θ:Th) (h:Hp) (w:World) (o:Obj):Ext nm θ h w θ h (w.alloc o) :=
 ⟨fun _ _ e=>e,fun _ _ _=>rfl,Nat.le_refl _,by simp,rfl,rfl,rfl,fun b hb _=>Below.heap_alloc _ _ _ hb,fun n e x h1 hu h2=>.inr ⟨n,e,x,h1,hu,h2,rfl⟩,fun n e x h1 h2=>.inr ⟨n,e,x,h1,h2,rfl⟩⟩
theorem obj_sound [LG] {θ:Th} {h:Hp} {w:World} (hr:HR θ h w) {nm:Nat} (hnm:θ nm=none) {o:Ob} {q:Obj} (hq:ObR θ (some q) o) :
 HR (fun n=>if n=nm then some (w.heap.size,0,0) else θ n) (halloc h nm ⟨.nil,0,0,some o⟩) (w.alloc q)/\Ext nm θ h w (fun n=>if n=nm then some (w.heap.size,0,0) else θ n) (halloc h nm ⟨.nil,0,0,some o⟩) (w.alloc q):=by
 have hkeep:∀ n x,θ n=some x->(fun n=>if n=nm then some (w.heap.size,0,0) else θ n) n=some x:=by
  intro n x hx
  have:n≠nm:=fun e=>by subst e; rw [hnm] at hx; cases hx
  simp only [if_neg this,hx]
 have hr1:=hr.alloc_free q
 refine ⟨⟨?_,?_,?_⟩,hkeep,?_,?_,by simp,rfl,rfl,rfl,fun b hb _=>Below.heap_alloc _ _ _ hb,?_,?_⟩
 .intro n e x hn hx
  simp only [halloc,tget_tset] at hn
  by_cases hb:nm=n
  .subst hb
   rw [if_pos rfl] at hn
   cases hn
   simp only [if_true,Option.some.injEq] at hx
   subst hx
   refine ⟨by simp,by simp,fun i v hi=>(by cases hi),fun o ho=>?_,fun hu=>absurd rfl hu⟩
   cases ho
   have:=ObR_mono hkeep hq
   rw [<- World.alloc_heap_new w q] at this
   exact this
  .rw [if_neg hb] at hn
   simp only [if_neg (Ne.symm hb)] at hx
   have q:=hr1.ent _ _ _ hn hx
   exact ⟨hkeep _ _ q.at_,q.lt,fun i v hi=>let ⟨⟨u,k1,k2⟩,k3⟩:=q.cell i v hi; ⟨⟨u,k1,S_mono hkeep k2⟩,k3⟩,fun o ho=>ObR_mono hkeep (q.ob o ho),q.room⟩
 .intro n m e e' x y h1 h2 hne t1 t2
  simp only [halloc,tget_tset] at h1 h2
  by_cases hn:nm=n
  .subst hn
   simp only [if_true] at t1
   rw [if_neg hne] at h2
   simp only [if_neg (Ne.symm hne)] at t2
   have:=(hr.ent _ _ _ h2 t2).lt
   cases t1
   simp only; omega
  .rw [if_neg hn] at h1
   simp only [if_neg (Ne.symm hn)] at t1
   by_cases hm:nm=m
   .subst hm
    simp only [if_true] at t2
    have:=(hr.ent _ _ _ h1 t1).lt
    cases t2
    simp only; omega
   .rw [if_neg hm] at h2
    simp only [if_neg (Ne.symm hm)] at t2
    exact hr.sep n m e e' x y h1 h2 hne t1 t2
 .intro n hn
  simp only [halloc] at hn
  have h1:n≠nm:=by omega
  simp only [if_neg h1]
  exact hr.fresh n (by omega)
 .intro n _ hne
  simp only [if_neg hne]
 .simp only [halloc]; omega
 .intro n e x h1 hu h2
  simp only [halloc,tget_tset] at h1
  by_cases hb:nm=n
  .subst hb
   simp only [if_true] at h2
   cases h2
   exact .inl (Nat.le_refl _)
  .rw [if_neg hb] at h1
   simp only [if_neg (Ne.symm hb)] at h2
   exact .inr ⟨n,e,x,h1,hu,h2,rfl⟩
 .intro n e x h1 h2
  simp only [halloc,tget_tset] at h1
  by_cases hb:nm=n
  .subst hb
   simp only [if_true] at h2
   cases h2
   exact .inl (Nat.le_refl _)
  .rw [if_neg hb] at h1
   simp only [if_neg (Ne.symm hb)] at h2
   exact .inr ⟨n,e,x,h1,h2,rfl⟩
theorem objSet_sound [LG] {θ:Th} {h:Hp} {w:World} (hr:HR θ h w) {l:Nat} {e:Ent} {x:Nat × Nat × Nat} (he:tget h.m l=some e) (hro:e.unk≠roU) (hx:θ l=some x) {o:Ob} {q:Obj} (hq:ObR θ (some q) o) :
 HR θ ⟨tset h.m l (some ⟨.nil,0,0,some o⟩),h.nxt⟩ (w.putObj x.1 q)/\∀ nm,Ext nm θ h w θ ⟨tset h.m l (some ⟨.nil,0,0,some o⟩),h.nxt⟩ (w.putObj x.1 q):=by
 have re:=hr.ent l e x he hx
 have lift:∀ k ek,tget (tset h.m l (some ⟨.nil,0,0,some o⟩)) k=some ek->∃ ek',tget h.m k=some ek':=by
  intro k ek hk
  rw [tget_tset] at hk
  split at hk
  .rename_i q; subst q; exact ⟨e,he⟩
  .exact ⟨ek,hk⟩
 refine ⟨⟨fun n en y hn hy=>?_,fun n m e1 e2 y z h1 h2 hne t1 t2=>?_,hr.fresh⟩,fun nm=>⟨fun _ _ q=>q,fun _ _ _=>rfl,Nat.le_refl _,by rw [World.putObj_size]; exact Nat.le_refl _,rfl,rfl,rfl,fun b hb hno=>?_,fun n en y hn hu hy=>?_,fun n en y hn hy=>?_⟩⟩
 .simp only [tget_tset] at hn
  by_cases hne:l=n
  .subst hne
   rw [if_pos rfl] at hn
   cases hn
   have hxy:x=y:=by rw [hx] at hy; exact Option.some.inj hy
   subst hxy
   refine ⟨hx,by rw [World.putObj_size]; exact re.lt,fun i v hi=>(by cases hi),fun o ho'=>?_,fun hu=>absurd rfl hu⟩
   cases ho'
   rw [World.putObj_heap_same re.lt]
   exact hq
  .rw [if_neg hne] at hn
   have rz:=hr.ent _ _ _ hn hy
   have hsep:=hr.sep _ _ _ _ _ _ hn he (Ne.symm hne) hy hx
   have hk:(w.putObj x.1 q).heap[y.1]? = w.heap[y.1]?:=World.putObj_heap_other hsep
   refine ⟨rz.at_,by rw [World.putObj_size]; exact rz.lt,fun i v hv=>?_,fun q hq=>(by rw [hk]; exact rz.ob q hq),fun hu=>?_⟩
   .rw [World.cell?_of_block (w:=w) hk,World.frozen?_of_block (w:=w) hk]; exact rz.cell i v hv
   .obtain ⟨h1,h2⟩:=rz.room hu
    refine ⟨h1,fun i hi=>?_⟩
    rw [World.cell?_of_block (w:=w) hk,World.frozen?_of_block (w:=w) hk]; exact h2 i hi
 .obtain ⟨e1',h1'⟩:=lift n e1 h1
  obtain ⟨e2',h2'⟩:=lift m e2 h2
  exact hr.sep n m e1' e2' y z h1' h2' hne t1 t2
 .exact World.putObj_heap_other fun q=>hno l e x he hro hx q.symm
 .simp only [tget_tset] at hn
  split at hn
  .rename_i q; subst q; exact .inr ⟨_,_,_,he,hro,hy,rfl⟩
  .exact .inr ⟨_,_,_,hn,hu,hy,rfl⟩
 .simp only [tget_tset] at hn
  split at hn
  .rename_i q; subst q; exact .inr ⟨_,_,_,he,hy,rfl⟩
  .exact .inr ⟨_,_,_,hn,hy,rfl⟩
def FR (θ:Th):Option (Nat × Value)->Option (Nat × Value)->Prop
 | none,none=>True
 | some p,some q=>p.1=q.1/\V θ p.2 q.2
 | _,_=>False
theorem same_now {P:Program} {kt:TypeId} {d:TypeDesc} (hd:P.underlying kt=some d) {x y:Value} {b b':Bool} (h1:Instr.sameNow d x y=some b) (h2:srun P (Op.equal kt x y)=some b') (w:World):b=b':=by
 have hr:=srun_sound h2 w
 have hq:(Op.equal kt x y).run P w = .ok b w:=by
  unfold Op.equal Op.maxDepth
  unfold Instr.sameNow at h1
  split at h1
  .rename_i k a k' b0
   split at h1
   .rename_i hk
    cases h1
    rw [show (10000:Nat)=9999+1 from rfl,Op.equalIn]
    simp [run_underlying hd,hk]
   .cases h1
  .cases h1
   rw [show (10000:Nat)=9999+1 from rfl,Op.equalIn]
   simp [run_underlying hd]
  .cases h1
   rw [show (10000:Nat)=9999+1 from rfl,Op.equalIn]
   simp [run_underlying hd]
  .cases h1
 rw [hr] at hq
 cases hq
 rfl
theorem find_now {P:Program} {θ:Th} {kt:TypeId} {d:TypeDesc} (hd:P.underlying kt=some d) {k:Value} (w:World):∀ {es:List (Value × Value)} {l:List MapEntry} {i:Nat} {r r2:Option (Nat × Value)},MpR θ es l->kFind P kt k es i=some r->Instr.findNow d k l i=some r2->FR θ r r2
 | [],[],i,r,r2,_,h1,h2=>by cases h1; cases h2; trivial
 | (k',v) :: es,e :: l,i,r,r2,hm,h1,h2=>by
  obtain ⟨⟨q1,q2⟩,q3⟩:=hm
  simp only [kFind] at h1
  simp only [Instr.findNow] at h2
  split at h1
  .rename_i hs
   split at h2
   .cases h1; cases h2; exact ⟨rfl,q2⟩
   .rename_i hn
    rw [q1] at hn
    have:=same_now hd hn hs w
    cases this
   .cases h2
  .rename_i hs
   split at h2
   .rename_i hn
    rw [q1] at hn
    have:=same_now hd hn hs w
    cases this
   .exact find_now hd w q3 h1 h2
   .cases h2
  .cases h1
 | [],_ :: _,_,_,_,h,_,_=>h.elim
 | _ :: _,[],_,_,_,h,_,_=>h.elim
theorem find_ask {P:Program} {θ:Th} {kt:TypeId} {k:Value} (w:World):∀ {es:List (Value × Value)} {l:List MapEntry} {i:Nat} {r:Option (Nat × Value)},MpR θ es l->kFind P kt k es i=some r->∃ r2,(Instr.findAsking kt k l i).run P w = .ok r2 w/\FR θ r r2
 | [],[],i,r,_,h1=>by cases h1; exact ⟨none,rfl,trivial⟩
 | (k',v) :: es,e :: l,i,r,hm,h1=>by
  obtain ⟨⟨q1,q2⟩,q3⟩:=hm
  simp only [kFind] at h1
  split at h1
  .rename_i hs
   cases h1
   refine ⟨some (i,e.val),?_,rfl,q2⟩
   simp [Instr.findAsking,q1,srun_sound hs w]
  .rename_i hs
   obtain ⟨r2,h3,h4⟩:=find_ask w q3 h1
   refine ⟨r2,?_,h4⟩
   simp [Instr.findAsking,q1,srun_sound hs w,h3]
  .cases h1
 | [],_ :: _,_,_,h,_=>h.elim
 | _ :: _,[],_,_,h,_=>h.elim
theorem find_key {P:Program} {θ:Th} {kt:TypeId} {d:TypeDesc} (hd:P.underlying kt=some d) {k:Value} (w:World) {es:List (Value × Value)} {l:List MapEntry} {r:Option (Nat × Value)} (hm:MpR θ es l) (h1:kFind P kt k es 0=some r) :
 ∃ r2,(Instr.findKey kt k l).run P w = .ok r2 w/\FR θ r r2:=by
 cases hn:Instr.findNow d k l 0 with
 | none =>
   obtain ⟨r2,h3,h4⟩:=find_ask w hm h1
   exact ⟨r2,by simp [Instr.findKey,run_underlying hd,hn,h3],h4⟩
 | some r2=>exact ⟨r2,by simp [Instr.findKey,run_underlying hd,hn],find_now hd w hm h1 hn⟩
theorem kind_map {d:TypeDesc} (h:(kindOf d).1=10):d = .map (kindOf d).2.2 (kindOf d).2.1:=by
 unfold kindOf at h ⊢; split<;>simp_all
theorem getMp_spec {h:Hp} {n:Nat} {es:List (Value × Value)} (hg:getMp h n=some es):∃ e,tget h.m n=some e/\e.ob=some (.mp es)/\e.unk≠roU:=by
 unfold getMp at hg
 split at hg
 .rename_i e he
  cases hu0:Nat.beq e.unk 0<;>simp only [hu0,cond_true,cond_false,reduceCtorEq] at hg
  have hro:e.unk≠roU:=by rw [Nat.eq_of_beq_eq_true hu0]; unfold roU; omega
  split at hg
  .rename_i L' ho
   cases hg
   exact ⟨e,he,ho,hro⟩
  .cases hg
 .cases hg
theorem op_makeMap [LG] {E:Env} (hE:EnvT E) {o:Oper} {nm:Nat} {θ:Th} {h:Hp} {w:World} {a:Act} (hr:HR θ h w) {t:TypeId} (hnm:θ nm=none) (ho:o.op = .makeMap t none):OpOk E.P o nm θ h w a (.map (some nm)) (halloc h nm ⟨.nil,0,0,some (.mp [])⟩):=by
 obtain ⟨g1,g2⟩:=obj_sound hr hnm (o:=.mp []) (q:=.map #[] 0) ⟨_,_,rfl,trivial⟩
 refine ⟨_,_,.map (some w.heap.size),_,?_,.inl rfl,g2,g1,?_⟩
 .simp [execOp,ho,Instr.makeMap]
 .exact ⟨(w.heap.size,0,0),by simp,rfl⟩
theorem key_good {P:Program} {emp:Bool} {kt:TypeId} {k:Value} (h:keyGood P emp kt k=true) (w:World):plainA k=true/\(Instr.checkKey emp 10000 kt k).run P w = .ok () w:=by
 unfold keyGood at h
 rw [Bool.and_eq_true] at h
 refine ⟨h.1,?_⟩
 have h2:=h.2
 split at h2
 .rename_i u hs
  exact srun_sound hs w
 .cases h2
theorem V_of_W {θ:Th} {u v:Value} (hn:isTup u=false) (h:W θ u v):V θ u v:=by
 cases u<;>first | exact h | cases hn
theorem V_plainA {θ:Th} {z:Value} (h:plainA z=true):V θ z z:=by
 cases z with
 | agg cs=>exact ⟨cs.toList,by simp,plain_all2 h⟩
 | _=>exact V_of_S (S_plain h)
theorem luRes_W {θ:Th} {v u:Value} {ok b:Bool} (h:V θ v u):W θ (luRes ok v b) (if ok then .tuple #[u,.bool b] else u):=by
 cases ok
 .exact W_of_V h
 .exact ⟨[u,.bool b],rfl,h,rfl,trivial⟩
theorem op_lookM [LG] {E:Env} (hE:EnvT E) {o:Oper} {nm:Nat} {θ:Th} {h h':Hp} {w:World} {a:Act} {T:Tm} {v:Value} (hr:HR θ h w) (ht:TO θ T a o) {t:TypeId} {x ix:Operand} {ok:Bool} {mt:TI} {es:List (Value × Value)} {k:Value} {l:Array MapEntry} {m:Value} (ho:o.op = .lookup t x ix ok)
 (hti:tget E.tt t=some mt) (hk:mt.kind=10) (hix:opv T ix=some k) (hm:MpR θ es l.toList)
 (hes:(a.eval x = .map none/\l = #[])\/∃ r c,a.eval x = .map (some r)/\(getObj r).run E.P w = .ok (.map l c) w) (hx:xLookM E h mt es k ok=some (v,h')):OpOk E.P o nm θ h w a v h':=by
 obtain ⟨i,d,z,fl,h1,h2,h3,h4,h5,rfl⟩:=ti_spec (hE _ _ hti)
 simp only at hk
 rw [kind_map hk] at h2
 unfold xLookM at hx
 cases hg:keyGood E.P es.isEmpty (kindOf d).2.2 k<;>simp only [hg,cond_true,cond_false,reduceCtorEq] at hx
 obtain ⟨p1,p2⟩:=key_good hg w
 have hkey:a.eval ix=k:=plainA_eq p1 (ht _ (by simp [ho,Op.operands]) _ hix)
 have hemp:l.isEmpty=es.isEmpty:=by
  have:=all2_len hm
  rw [Bool.eq_iff_iff,Array.isEmpty_iff_size_eq_zero,List.isEmpty_iff_length_eq_zero,this]
  simp
 have hu:∃ d',E.P.underlying (kindOf d).2.2=some d':=by
  have:=p2
  cases hq:E.P.underlying (kindOf d).2.2 with
  | some d'=>exact ⟨d',rfl⟩
  | none =>
    exfalso
    rw [show (10000:Nat)=9999+1 from rfl,Instr.checkKey] at this
    simp [underlying,hq,stuck] at this
 obtain ⟨d',hd'⟩:=hu
 have main:∀ r2 u b,(Instr.findKey (kindOf d).2.2 k l.toList).run E.P w = .ok r2 w->((∃ j,r2=some (j,u)/\b=true)\/(r2=none/\b=false/\(zeroValue (kindOf d).2.1).run E.P w = .ok u w))->(execOp a.eval o).run E.P w = .ok (.value (if ok then .tuple #[u,.bool b] else u)) w:=by
  intro r2 u b e1 e2
  have e0:(Instr.lookup t (a.eval x) (a.eval ix) ok).run E.P w = .ok (if ok then .tuple #[u,.bool b] else u) w:=by
   unfold Instr.lookup
   rw [<- hemp] at p2
   rcases hes with ⟨g1,g2⟩ | ⟨r,c,g1,g2⟩
   .subst g2
    have p2:(Instr.checkKey true 10000 (kindOf d).2.2 k).run E.P w = .ok () w:=p2
    have e1:(Instr.findKey (kindOf d).2.2 k []).run E.P w = .ok r2 w:=e1
    rcases e2 with ⟨j,rfl,rfl⟩ | ⟨rfl,rfl,e3⟩
    .simp [run_underlying h2,g1,hkey,p2,e1]
    .simp [run_underlying h2,g1,hkey,p2,e1,e3]
   .rcases e2 with ⟨j,rfl,rfl⟩ | ⟨rfl,rfl,e3⟩
    .simp [run_underlying h2,g1,g2,hkey,p2,e1]
    .simp [run_underlying h2,g1,g2,hkey,p2,e1,e3]
  simp [execOp,ho,e0]
 split at hx
 .rename_i j u hf
  cases hq:isTup u<;>simp only [hq,cond_true,cond_false,reduceCtorEq] at hx
  cases hx
  obtain ⟨r2,q1,q2⟩:=find_key hd' w hm hf
  cases r2 with
  | none=>exact q2.elim
  | some p=>exact opOk_same hr (main _ p.2 true q1 (.inl ⟨p.1,rfl,rfl⟩)) (luRes_W q2.2)
 .rename_i hf
  split at hx
  .rename_i z' hz
   cases hq:plainA z'<;>simp only [hq,cond_true,cond_false,reduceCtorEq] at hx
   cases hx
   obtain ⟨r2,q1,q2⟩:=find_key hd' w hm hf
   cases r2 with
   | some p=>exact q2.elim
   | none=>exact opOk_same hr (main _ z' false q1 (.inr ⟨rfl,rfl,srun_sound hz w⟩)) (luRes_W (V_plainA hq))
  .cases hx
 .cases hx
theorem op_lookup [LG] {E:Env} (hE:EnvT E) {o:Oper} {nm:Nat} {θ:Th} {h h':Hp} {w:World} {a:Act} {T:Tm} {v:Value} (hr:HR θ h w) (ht:TO θ T a o) {t:TypeId} {x ix:Operand} {ok:Bool} (ho:o.op = .lookup t x ix ok)
 (hx:xLook E (opv T) h t x ix ok=some (v,h')):OpOk E.P o nm θ h w a v h':=by
 unfold xLook at hx
 split at hx
 .rename_i k hm hk
  obtain ⟨mt,k1,k2⟩:=ob_some hx
  cases hq:Nat.beq mt.kind 10<;>simp only [hq,cond_true,cond_false,reduceCtorEq] at k2
  have e:a.eval x = .map none:=ht _ (by simp [ho,Op.operands]) _ hm
  exact op_lookM hE hr ht ho k1 (Nat.eq_of_beq_eq_true hq) hk (es:=[]) (l:=#[]) (m:=.map none) trivial (.inl ⟨e,rfl⟩) k2
 .rename_i n k hm hk
  obtain ⟨mt,k1,k2⟩:=ob_some hx
  cases hq:Nat.beq mt.kind 10<;>simp only [hq,cond_true,cond_false,reduceCtorEq] at k2
  obtain ⟨es,k3,k4⟩:=ob_some k2
  obtain ⟨x',hx',e⟩:∃ x',θ n=some x'/\a.eval x = .map (some x'.1):=ht _ (by simp [ho,Op.operands]) _ hm
  obtain ⟨ent,g1,g2,g3⟩:=getMp_spec k3
  obtain ⟨l,c,j1,j2⟩:=(hr.ent _ _ _ g1 hx').ob _ g2
  exact op_lookM hE hr ht ho k1 (Nat.eq_of_beq_eq_true hq) hk (l:=l) (m:=.map none) j2 (.inr ⟨_,c,e,by simp [getObj,Sem.run,j1]⟩) k4
 .cases hx
theorem MpR.set {θ:Th} {k v u:Value} (hv:V θ v u):∀ {es:List (Value × Value)} {l:List MapEntry} (i:Nat),MpR θ es l->MpR θ (es.set i (k,v)) (l.modify i fun e=>{ e with key:=k,val:=u })
 | [],[],i,_=>by cases i<;>exact trivial
 | p :: es,e :: l,0,h=>⟨⟨rfl,hv⟩,h.2⟩
 | p :: es,e :: l,i+1,h=>⟨h.1,MpR.set hv i h.2⟩
 | [],_ :: _,_,h=>h.elim
 | _ :: _,[],_,h=>h.elim
theorem op_mapUpdate [LG] {E:Env} (hE:EnvT E) {o:Oper} {nm:Nat} {θ:Th} {h h':Hp} {w:World} {a:Act} {T:Tm} {r:Value} (hr:HR θ h w) (ht:TO θ T a o) {t:TypeId} {m k x:Operand} (ho:o.op = .mapUpdate t m k x)
 (hx:xUpd E (opv T) h t m k x=some (r,h')):OpOk E.P o nm θ h w a r h':=by
 unfold xUpd at hx
 split at hx
 .rename_i n kv v hm hk hv
  obtain ⟨mt,k1,k2⟩:=ob_some hx
  cases hq:(Nat.beq mt.kind 10&&!(isTup v)&&keyGood E.P false mt.alen kv)<;>simp only [hq,cond_true,cond_false,reduceCtorEq] at k2
  simp only [Bool.and_eq_true,Bool.not_eq_true'] at hq
  obtain ⟨⟨hq1,hq2⟩,hq3⟩:=hq
  obtain ⟨es,k3,k4⟩:=ob_some k2
  obtain ⟨x',hx',e⟩:∃ x',θ n=some x'/\a.eval m = .map (some x'.1):=ht _ (by simp [ho,Op.operands]) _ hm
  obtain ⟨ent,g1,g2,g3⟩:=getMp_spec k3
  obtain ⟨l,c,j1,j2⟩:=(hr.ent _ _ _ g1 hx').ob _ g2
  obtain ⟨i,d,z,fl,h1,h2,h3,h4,h5,rfl⟩:=ti_spec (hE _ _ k1)
  simp only at hq3 k4
  rw [kind_map (Nat.eq_of_beq_eq_true hq1)] at h2
  obtain ⟨p1,p2⟩:=key_good hq3 w
  have hkey:a.eval k=kv:=plainA_eq p1 (ht _ (by simp [ho,Op.operands]) _ hk)
  have hval:V θ v (a.eval x):=V_of_W hq2 (ht _ (by simp [ho,Op.operands]) _ hv)
  have hu:∃ d',E.P.underlying (kindOf d).2.2=some d':=by
   have:=p2
   cases hq:E.P.underlying (kindOf d).2.2 with
   | some d'=>exact ⟨d',rfl⟩
   | none =>
     exfalso
     rw [show (10000:Nat)=9999+1 from rfl,Instr.checkKey] at this
     simp [underlying,hq,stuck] at this
  obtain ⟨d',hd'⟩:=hu
  have hset:∀ q,(setObj x'.1 q).run E.P w = .ok () (w.putObj x'.1 q):=fun q=>by simp [setObj,Sem.run,j1,World.putObj]
  have hget:(getObj x'.1).run E.P w = .ok (.map l c) w:=by simp [getObj,Sem.run,j1]
  split at k4
  .rename_i hf
   cases k4
   obtain ⟨r2,q1,q2⟩:=find_key hd' w j2 hf
   cases r2 with
   | some p=>exact q2.elim
   | none =>
     have hob:ObR θ (some (.map (l.push { key:=kv,val:=a.eval x,born:=c }) (c+1))) (.mp (es++[(kv,v)])):=⟨_,_,rfl,by
      rw [Array.toList_push]
      exact all2_append j2 ⟨⟨rfl,hval⟩,trivial⟩⟩
     obtain ⟨s1,s2⟩:=objSet_sound hr g1 g3 hx' hob
     refine ⟨θ,_,undef,.skip,?_,.inr ⟨rfl,rfl⟩,s2 nm,s1,⟨[],rfl,trivial⟩⟩
     simp [execOp,ho,Instr.mapUpdate,run_underlying h2,e,hget,hkey,p2,q1,hset]
  .rename_i j vv hf
   split at k4
   .rename_i p hp
    cases hb:Instr.sameBits 10000 p.1 kv<;>simp only [hb,cond_true,cond_false,reduceCtorEq] at k4
    cases k4
    obtain ⟨r2,q1,q2⟩:=find_key hd' w j2 hf
    cases r2 with
    | none=>exact q2.elim
    | some p2' =>
      obtain ⟨jj,uu⟩:=p2'
      obtain ⟨q3,q4⟩:=q2
      simp only at q3
      subst q3
      obtain ⟨en,f1,f2,f3⟩:=all2_get j2 j p hp
      have hen:l[j]? = some en:=by simpa using f1
      have hob:ObR θ (some (.map (l.modify j fun e=>{ e with key:=kv,val:=a.eval x }) c)) (.mp (es.set j (kv,v))):=⟨_,_,rfl,by
       rw [Array.toList_modify]
       exact MpR.set hval j j2⟩
      obtain ⟨s1,s2⟩:=objSet_sound hr g1 g3 hx' hob
      refine ⟨θ,_,undef,.skip,?_,.inr ⟨rfl,rfl⟩,s2 nm,s1,⟨[],rfl,trivial⟩⟩
      have hst:(Instr.keyThatStays en.key kv).run E.P w = .ok kv w:=by
       unfold Instr.keyThatStays
       rw [f2,hb]
       rfl
      simp [execOp,ho,Instr.mapUpdate,run_underlying h2,e,hget,hkey,p2,q1,hset,hen,hst]
   .cases k4
  .cases k4
 .cases hx
theorem kind_u8 {d:TypeDesc} (h:(kindOf d).1=6):d = .int .u8:=by
 cases d<;>simp [kindOf] at h ⊢
 case int k=>cases k<;>simp [kindOf] at h ⊢
theorem fold_bytes:∀ (ns:List Int) (acc:List UInt8),ns.foldl (fun r n=>r.push (UInt8.ofNat n.toNat)) (⟨acc.toArray⟩:ByteArray)=⟨(acc++ns.map fun n=>UInt8.ofNat n.toNat).toArray⟩
 | [],acc=>by simp
 | n :: ns,acc=>by
   have:(⟨acc.toArray⟩:ByteArray).push (UInt8.ofNat n.toNat)=⟨(acc++[UInt8.ofNat n.toNat]).toArray⟩:=by simp [ByteArray.push]
   rw [List.foldl_cons,this,fold_bytes ns]
   simp [List.append_assoc]
theorem bytes_ints:∀ {cs:List Value} {bs:List UInt8},bytesOfCells cs=some bs->∃ ns:List Int,cs=ns.map (Value.int .u8)/\bs=ns.map fun n=>UInt8.ofNat n.toNat
 | [],bs,h=>by simp only [bytesOfCells,Option.some.injEq] at h; subst h; exact ⟨[],rfl,rfl⟩
 | v :: l,bs,h=>by
   unfold bytesOfCells at h
   split at h
   .rename_i heq; cases heq
   .rename_i n l' heq
    cases heq
    split at h
    .rename_i r hr
     cases h
     obtain ⟨ns,e1,e2⟩:=bytes_ints hr
     exact ⟨n :: ns,by simp [e1],by simp [e2]⟩
    .cases h
   .cases h
theorem plain_ints (ns:List Int):allPlain (ns.map (Value.int .u8))=true:=by
 induction ns with
 | nil=>rfl
 | cons n ns ih=>simp [allPlain,isPlain,ih]
theorem allS_eq {θ:Th}:∀ {vs us:List Value},allPlain vs=true->all2 (S θ) vs us->us=vs
 | [],[],_,_=>rfl
 | v :: vs,u :: us,hp,h=>by
   simp only [allPlain,Bool.and_eq_true] at hp
   rw [W_plain hp.1 (W_of_S h.1),allS_eq hp.2 h.2]
 | [],_ :: _,_,h=>h.elim
 | _ :: _,[],_,h=>h.elim
theorem op_bytes [LG] {E:Env} (hE:EnvT E) {o:Oper} {nm:Nat} {θ:Th} {h:Hp} {w:World} {a:Act} {T:Tm} (hr:HR θ h w) (ht:TO θ T a o) {src dst:TypeId} {x:Operand} {sa:Option Addr} {len cap:Nat} {ti si ei:TI} {cs:List Value} {bs:List UInt8}
 (ho:o.op = .convert src dst x) (hx:opv T x=some (.slice sa len cap)) (hti:tget E.tt dst=some ti) (hsi:tget E.tt src=some si) (hei:tget E.tt si.elem=some ei) (hk:ti.kind=4) (hk1:si.kind=1) (hk2:ei.kind=6)
 (hc:oldCells h 1 sa len=some cs) (hb:bytesOfCells cs=some bs):OpOk E.P o nm θ h w a (.string ⟨bs.toArray⟩) h:=by
 obtain ⟨i,d,z,fl,g1,g2,g3,g4,g5,rfl⟩:=ti_spec (hE _ _ hti)
 obtain ⟨i2,d2,z2,fs2,m1,m2,m3,m4,m5,rfl⟩:=ti_spec (hE _ _ hsi)
 simp only at hk hk1 hei
 obtain ⟨i3,d3,z3,fs3,p1,p2,p3,p4,p5,rfl⟩:=ti_spec (hE _ _ hei)
 simp only at hk2
 rw [kind_string hk] at g2
 rw [kind_slice hk1] at m2
 rw [kind_u8 hk2] at p2
 obtain ⟨b,c,ds,hy,k2,k4,hfirst⟩:=first_sound (P:=E.P) hr (ht _ (by simp [ho,Op.operands]) _ hx) hc
 obtain ⟨ns,e1,e2⟩:=bytes_ints hb
 subst e1; subst e2
 have hds:=allS_eq (plain_ints ns) k2
 subst hds
 refine opOk_same hr (u:=.string ⟨(ns.map fun n:Int=>UInt8.ofNat n.toNat).toArray⟩) ?_ rfl
 have hf:=hfirst w.drawn
 have hconv:=run_convert_bytes_string (P:=E.P) w src dst _ b len c m2 p2 g2
 cases b with
 | none =>
   simp at k4
   have hn:ns=[]:=by
    simp [Builtin.firstCells] at hf
    exact hf
   subst hn
   simp [execOp,ho,hy,hconv,Conv.bytesToString]
   rfl
 | some ad =>
   simp only [Builtin.firstCells,Nat.mul_one] at hf
   have hbs:=run_bytesToString (P:=E.P) w ad len c ns hf
   have hfold:=fold_bytes ns []
   simp only [List.nil_append] at hfold
   have hemp:(ByteArray.empty)=(⟨([]:List UInt8).toArray⟩:ByteArray):=rfl
   rw [hemp,hfold] at hbs
   simp [execOp,ho,hy,hconv,hbs]
theorem HR.same [LG] {θ:Th} {h:Hp} {w w2:World} (hr:HR θ h w) (hsz:w2.heap.size=w.heap.size) (hl:∀ (b:Nat) (r:Loop),w.heap[b]? = some (.loop r)->w2.heap[b]? = some (.loop r)) (hm:∀ (b:Nat) l c,w.heap[b]? = some (.map l c)->w2.heap[b]? = some (.map l c)) (hc:∀ a,w2.cell? a=w.cell? a) (hf:∀ a,(w.cell? a).isSome=true->w2.frozen? a=w.frozen? a):HR θ h w2:=by
 refine ⟨fun n e x he hx=>?_,hr.sep,hr.fresh⟩
 have r:=hr.ent n e x he hx
 refine ⟨r.at_,by rw [hsz]; exact r.lt,fun i v hv=>?_,fun o ho=>?_,fun hu=>?_⟩
 rotate_left
 .have q:=r.ob o ho
  cases o with
  | loop L=>obtain ⟨q1,lr,q2,q3⟩:=q; exact ⟨q1,lr,hl _ _ q2,q3⟩
  | mp es=>obtain ⟨l,c,q2,q3⟩:=q; exact ⟨l,c,hm _ _ _ q2,q3⟩
 rotate_left
 .obtain ⟨⟨u,h1,h2⟩,h3⟩:=r.cell i v hv
  rw [hc,hf _ (by rw [h1]; rfl)]
  exact ⟨⟨u,h1,h2⟩,h3⟩
 .obtain ⟨h1,h2⟩:=r.room hu
  refine ⟨h1,fun i hi=>?_⟩
  rw [hc,hf _ (h2 i hi).1]
  exact h2 i hi
theorem plain_bytes:∀ l:List UInt8,allPlain (l.map fun b=>Value.int .u8 b.toNat)=true
 | []=>rfl
 | b :: l=>plain_bytes l
theorem op_strB [LG] {E:Env} (hE:EnvT E) {o:Oper} {nm:Nat} {θ:Th} {h:Hp} {w:World} {a:Act} {T:Tm} (hr:HR θ h w) (ht:TO θ T a o) {src dst:TypeId} {x:Operand} {s:ByteArray} {ti si ei:TI} (hnm:θ nm=none)
 (ho:o.op = .convert src dst x) (hx:opv T x=some (.string s)) (hti:tget E.tt dst=some ti) (hsi:tget E.tt src=some si) (hei:tget E.tt ti.elem=some ei) (hk:ti.kind=1) (hk2:ei.kind=6) :
 OpOk E.P o nm θ h w a (.slice (some ⟨nm,0,none⟩) s.size unkU) (halloc h nm (mkEnt (byteCells s) 1)):=by
 obtain ⟨i,d,z,fl,g1,g2,g3,g4,g5,rfl⟩:=ti_spec (hE _ _ hti)
 obtain ⟨i2,d2,z2,fs2,m1,m2,m3,m4,m5,rfl⟩:=ti_spec (hE _ _ hsi)
 simp only at hk hei
 obtain ⟨i3,d3,z3,fs3,p1,p2,p3,p4,p5,rfl⟩:=ti_spec (hE _ _ hei)
 simp only at hk2
 rw [kind_slice hk] at g2
 rw [kind_u8 hk2] at p2
 have hsx:a.eval x = .string s:=ht _ (by simp [ho,Op.operands]) _ hx
 have hge:=grownCap_ge w s.size 0 (kindOf d).2.1
 have hcells:(Lib.bytesCells w (kindOf d).2.1 s)=(byteCells s++List.replicate (grownCap w s.size 0 (kindOf d).2.1-s.size) (Value.int .u8 0)).toArray:=by
  apply Array.ext'
  simp [Lib.bytesCells,byteCells]
 have hlen:(byteCells s).length=s.size:=by unfold byteCells; rw [List.length_map]; rfl
 obtain ⟨e1,e2⟩:=alloc_sound (hr.drawn (w.drawn+1)) hnm (List.replicate (grownCap w s.size 0 (kindOf d).2.1-s.size) (Value.int .u8 0)) (plain_all2 (plain_bytes s.data.toList)) (kindOf d).2.1 (grownCap w s.size 0 (kindOf d).2.1) 1
  (fun _=>by
    have:(s.data.toList.map fun b=>Value.int .u8 b.toNat).length=s.size:=hlen
    simp only [List.length_append,this,List.length_replicate]
    omega)
 have hb:({ w with drawn:=w.drawn+1 }.alloc (.cells (byteCells s++List.replicate (grownCap w s.size 0 (kindOf d).2.1-s.size) (Value.int .u8 0)).toArray (kindOf d).2.1))=w.drew.alloc (.cells (Lib.bytesCells w (kindOf d).2.1 s) (kindOf d).2.1):=by rw [hcells]; rfl
 have e1':HR _ (halloc h nm (mkEnt (byteCells s) 1)) _:=e1
 have e2':Ext nm θ h _ _ (halloc h nm (mkEnt (byteCells s) 1)) _:=e2
 change HR _ _ ({ w with drawn:=w.drawn+1 }.alloc (.cells (byteCells s++List.replicate (grownCap w s.size 0 (kindOf d).2.1-s.size) (Value.int .u8 0)).toArray (kindOf d).2.1)) at e1'
 change Ext _ _ _ _ _ _ ({ w with drawn:=w.drawn+1 }.alloc (.cells (byteCells s++List.replicate (grownCap w s.size 0 (kindOf d).2.1-s.size) (Value.int .u8 0)).toArray (kindOf d).2.1)) at e2'
 rw [hb] at e1' e2'
 have hnew:(w.drew.alloc (.cells (Lib.bytesCells w (kindOf d).2.1 s) (kindOf d).2.1)).heap[w.heap.size]? = some (.cells (Lib.bytesCells w (kindOf d).2.1 s) (kindOf d).2.1):=by
  simp [World.alloc,World.drew,-World.alloc_eq,-World.drew_eq]
 have hold:∀ j,j<w.heap.size->(w.drew.alloc (.cells (Lib.bytesCells w (kindOf d).2.1 s) (kindOf d).2.1)).heap[j]? = w.heap[j]?:=by
  intro j hj
  have h1:w.heap.size≠j:=by omega
  simp [World.alloc,World.drew,-World.alloc_eq,-World.drew_eq,Array.getElem?_push,h1,Ne.symm h1]
 have hsz1:(w.drew.alloc (.cells (Lib.bytesCells w (kindOf d).2.1 s) (kindOf d).2.1)).heap.size=w.heap.size+1:=by
  simp [World.alloc,World.drew,-World.alloc_eq,-World.drew_eq]
 have hsz2:=Lib.bytesWorld_size w (kindOf d).2.1 s
 have hcell:∀ b,(Lib.bytesWorld w (kindOf d).2.1 s).cell? b=(w.drew.alloc (.cells (Lib.bytesCells w (kindOf d).2.1 s) (kindOf d).2.1)).cell? b:=by
  intro b
  unfold World.cell?
  rcases Nat.lt_trichotomy b.block w.heap.size with q | q | q
  .rw [Lib.bytesWorld_at_old _ _ _ _ q,hold _ q]
  .rw [q,Lib.bytesWorld_at_new,hnew]
  .rw [Array.getElem?_eq_none (by omega),Array.getElem?_eq_none (by omega)]
 have hloop:∀ (b:Nat) (r:Loop),(w.drew.alloc (.cells (Lib.bytesCells w (kindOf d).2.1 s) (kindOf d).2.1)).heap[b]? = some (.loop r)->(Lib.bytesWorld w (kindOf d).2.1 s).heap[b]? = some (.loop r):=by
  intro b r hb
  rcases Nat.lt_trichotomy b w.heap.size with q | q | q
  .rw [Lib.bytesWorld_at_old _ _ _ _ q,<- hold _ q]; exact hb
  .rw [q,hnew] at hb; cases hb
  .rw [Array.getElem?_eq_none (by omega)] at hb; cases hb
 have hmap:∀ (b:Nat) l c,(w.drew.alloc (.cells (Lib.bytesCells w (kindOf d).2.1 s) (kindOf d).2.1)).heap[b]? = some (.map l c)->(Lib.bytesWorld w (kindOf d).2.1 s).heap[b]? = some (.map l c):=by
  intro b l c hb
  rcases Nat.lt_trichotomy b w.heap.size with q | q | q
  .rw [Lib.bytesWorld_at_old _ _ _ _ q,<- hold _ q]; exact hb
  .rw [q,hnew] at hb; cases hb
  .rw [Array.getElem?_eq_none (by omega)] at hb; cases hb
 have hfro:∀ b,((w.drew.alloc (.cells (Lib.bytesCells w (kindOf d).2.1 s) (kindOf d).2.1)).cell? b).isSome=true->(Lib.bytesWorld w (kindOf d).2.1 s).frozen? b=(w.drew.alloc (.cells (Lib.bytesCells w (kindOf d).2.1 s) (kindOf d).2.1)).frozen? b:=by
  intro b hbs
  unfold World.frozen?
  rcases Nat.lt_trichotomy b.block w.heap.size with q | q | q
  .rw [Lib.bytesWorld_at_old _ _ _ _ q,hold _ q]
  .unfold World.cell? at hbs
   rw [q,hnew] at hbs
   simp only at hbs
   rw [q,Lib.bytesWorld_at_new,hnew]
   simp only
   have hlt:b.off<(Lib.bytesCells w (kindOf d).2.1 s).size:=by
    split at hbs
    .cases hbs
    .rcases Nat.lt_or_ge b.off (Lib.bytesCells w (kindOf d).2.1 s).size with k | k
     .exact k
     .rw [Array.getElem?_eq_none k] at hbs; cases hbs
   have h1:decide ((Lib.bytesCells w (kindOf d).2.1 s).size<=b.off)=false:=by rw [decide_eq_false_iff_not]; omega
   rw [h1]
   simp
  .rw [Array.getElem?_eq_none (by omega),Array.getElem?_eq_none (by omega)]
 refine ⟨_,Lib.bytesWorld w (kindOf d).2.1 s,.slice (some ⟨w.heap.size,0,none⟩) s.size (grownCap w s.size 0 (kindOf d).2.1),_,?_,.inl rfl,?_,e1'.same (by rw [hsz1,hsz2]) hloop hmap hcell hfro,?_⟩
 .simp [execOp,ho,hsx,Lib.run_convert_string_bytes w src dst _ s m2 g2 p2]
 .have ee:=(Ext.drawn nm θ h w (w.drawn+1)).trans e2' (fun _ _ k=>k)
  refine ⟨ee.keep,ee.only,ee.nxt,by rw [hsz2]; omega,?_,?_,?_,fun b hb hno=>Lib.bytesWorld_at_old _ _ _ _ hb,ee.ownw,ee.own⟩
  .simp [Lib.bytesWorld,World.freeze,World.alloc,World.drew,-World.alloc_eq,-World.drew_eq]
  .simp [Lib.bytesWorld,World.freeze,World.alloc,World.drew,-World.alloc_eq,-World.drew_eq]
  .simp [Lib.bytesWorld,World.freeze,World.alloc,World.drew,-World.alloc_eq,-World.drew_eq]
 .exact W_unk (x:=(w.heap.size,0,grownCap w s.size 0 (kindOf d).2.1)) (by simp) rfl rfl rfl
theorem op_makeFunc [LG] {E:Env} (hE:EnvT E) {o:Oper} {nm:Nat} {θ:Th} {h:Hp} {w:World} {a:Act} {T:Tm} (hr:HR θ h w) (ht:TO θ T a o) {g:FuncId} {first cap:Array Operand} {vs us:List Value}
 (ho:o.op = .makeFunc (.func g) first cap) (h1:opvs (opv T) first.toList=some vs) (h2:opvs (opv T) cap.toList=some us) (k1:vs.all capOk=true) (k2:us.all capOk=true):OpOk E.P o nm θ h w a (.func (.func g) vs.toArray us.toArray) h:=by
 have w1:=opvs_O (fun y hy=>ht y (by simp [ho,Op.operands]; exact .inl (by simpa using hy))) h1
 have w2:=opvs_O (fun y hy=>ht y (by simp [ho,Op.operands]; exact .inr (by simpa using hy))) h2
 have a1:first.map a.eval=(first.toList.map a.eval).toArray:=by apply Array.ext'; simp
 have a2:cap.map a.eval=(cap.toList.map a.eval).toArray:=by apply Array.ext'; simp
 refine opOk_same hr (u:=.func (.func g) (first.toList.map a.eval).toArray (cap.toList.map a.eval).toArray) ?_ ⟨_,_,rfl,by simpa using all_V0 k1 w1,by simpa using all_V0 k2 w2⟩
 simp [execOp,ho,Instr.makeFunc,a1,a2]
theorem blt_lt {m n:Nat} (h:Nat.blt m n=true):m<n:=Nat.le_of_ble_eq_true h
def CallAt [LG] (P:Program) (call:Nat->List Value->Hp->Option (Value × Hp)) (nm:Nat) (h:Hp):Prop :=
 ∀ g args r h',call g args h=some (r,h')->∀ θ w cargs,HR θ h w->all2 (W θ) args cargs->
  (g<unkU->((callFunc g cargs.toArray).run P w = .ok (.enter g cargs.toArray) w/\Calls P g cargs.toArray w (fun e w'=>∃ θ' u,e = .returned u/\Ext nm θ h w θ' h' w'/\HR θ' h' w'/\W θ' r u))\/
    (∃ u,(callFunc g cargs.toArray).run P w = .ok (.value u) w/\W θ r u/\h'=h))/\
  (unkU<=g->∀ x,θ (g-unkU)=some x->YieldAt Fence.wide 0 P x.1 cargs.toArray w (fun e w'=>∃ θ' u,e = .returned u/\Ext nm θ h w θ' h' w'/\HR θ' h' w'/\W θ' r u))
theorem op_call [LG] {E:Env} (hE:EnvT E) {o:Oper} {nm:Nat} {θ:Th} {h h':Hp} {w:World} {a:Act} {T:Tm} {v:Value} (hr:HR θ h w) (ht:TO θ T a o) {call:Nat->List Value->Hp->Option (Value × Hp)} (hcall:CallAt E.P call nm h) {c:Call} {f:Operand} {g:Nat} {first cap:Array Value} {vs:List Value}
 (ho:o.op = .call c) (hc:c.callee = .value f) (hf:opv T f=some (.func (.func g) first cap)) (hv:opvs (opv T) c.args.toList=some vs) (hg:g<unkU) (hx:call g (first.toList++vs++cap.toList) h=some (v,h')):OpWp E.P o nm θ h w a v h':=by
 obtain ⟨fa,fb,e3,q1,q2⟩:∃ a' b':List Value,a.eval f = .func (.func g) a'.toArray b'.toArray/\all2 (V0 θ) first.toList a'/\all2 (V0 θ) cap.toList b':=ht _ (by simp [ho,Op.operands,Call.operands,hc]) _ hf
 have hw:=opvs_O (fun y hy=>ht y (by simp [ho,Op.operands,Call.operands]; exact .inr (by simpa using hy))) hv
 have harr:c.args.map a.eval=(c.args.toList.map a.eval).toArray:=by apply Array.ext'; simp
 have hrun:(execOp a.eval o).run E.P w=(callFunc g (fa++c.args.toList.map a.eval++fb).toArray).run E.P w:=by
  simp only [execOp,ho,resolve,hc,e3,Deferred.ofValue,harr,Sem.run_bind,Sem.run_pure,Result.andThen_ok,invoke]
  simp
 have hV:∀ {l m:List Value},all2 (V0 θ) l m->all2 (W θ) l m:=fun q=>all2_mono (fun _ _ z=>W_of_V (V_of_V0 z)) q
 rcases (hcall g _ v h' hx θ w _ hr (all2_append (all2_append (hV q1) hw) (hV q2))).1 hg with ⟨k1,k2⟩ | ⟨u,k1,k2,rfl⟩
 .intro ro K Q hK
  refine ⟨fun _ _=>fn_FW,?_⟩
  rw [Oper.semAt_eq ro _ _ (fun c' e=>by rw [ho] at e; cases e),hrun,k1]
  refine ⟨depth_FW,?_⟩
  refine (callsIn_FW k2).mono fun e w' he=>?_
  obtain ⟨θ',u,rfl,q1,q2,q3⟩:=he
  exact hK θ' w' u q1 q2 q3
 .exact OpOk.wp (opOk_same hr (hrun.trans k1) k2)
theorem op_yield [LG] {E:Env} (hE:EnvT E) {o:Oper} {nm:Nat} {θ:Th} {h h':Hp} {w:World} {a:Act} {T:Tm} {v:Value} (hr:HR θ h w) (ht:TO θ T a o) {call:Nat->List Value->Hp->Option (Value × Hp)} (hcall:CallAt E.P call nm h) {c:Call} {f:Operand} {l:Nat} {first cap:Array Value} {vs:List Value}
 (ho:o.op = .call c) (hc:c.callee = .value f) (hf:opv T f=some (.func (.yield l) first cap)) (hv:opvs (opv T) c.args.toList=some vs) (hx:call (unkU+l) vs h=some (v,h')):OpWp E.P o nm θ h w a v h':=by
 obtain ⟨x,hx0,e3⟩:∃ x,θ l=some x/\a.eval f = .func (.yield x.1) #[] #[]:=ht _ (by simp [ho,Op.operands,Call.operands,hc]) _ hf
 have hw:=opvs_O (fun y hy=>ht y (by simp [ho,Op.operands,Call.operands]; exact .inr (by simpa using hy))) hv
 have harr:c.args.map a.eval=(c.args.toList.map a.eval).toArray:=by apply Array.ext'; simp
 have hrun:(execOp a.eval o).run E.P w=(Instr.yield x.1 (c.args.toList.map a.eval).toArray).run E.P w:=by
  simp only [execOp,ho,resolve,hc,e3,Deferred.ofValue,harr,Sem.run_bind,Sem.run_pure,Result.andThen_ok,invoke]
  simp
 obtain ⟨fn,tmps,assign,body,y1,y2⟩:=(hcall _ _ v h' hx θ w _ hr hw).2 (Nat.le_add_right _ _) x (by rw [Nat.add_sub_cancel_left]; exact hx0)
 intro ro K Q hK
 refine ⟨fun _ _=>fn_FW,?_⟩
 rw [Oper.semAt_eq ro _ _ (fun c' e=>by rw [ho] at e; cases e),hrun,y1]
 refine ⟨depth_FW,?_⟩
 refine RoundIn.mono (F:=FW ro) y2 fun e w' he=>?_
 obtain ⟨θ',u,rfl,q1,q2,q3⟩:=he
 exact hK θ' w' u q1 q2 q3
theorem blt_ge {m n:Nat} (h:Nat.blt m n=false):n<=m:=by
 rcases Nat.lt_or_ge m n with k | k
 .have:Nat.blt m n=true:=Nat.ble_eq_true_of_le k
  rw [h] at this; cases this
 .exact k
theorem wrapF_eq (x:Int):wrapF x=IntKind.i64.wrap x:=by
 unfold wrapF
 cases hi:inI64 x
 .rfl
 .rw [cond_true]
  refine (IntWalk.i64_in x ?_).symm
  cases x with
  | ofNat k =>
    have:=blt_lt (m:=k) (n:=9223372036854775808) hi
    constructor
    .have:=Int.natCast_nonneg k; show (-9223372036854775808:Int)<=(k:Int); omega
    .show (k:Int)<=9223372036854775807; omega
  | negSucc k =>
    have:=blt_lt (m:=k) (n:=9223372036854775808) hi
    rw [Int.negSucc_eq]
    omega
theorem iLt_eq (x y:Int):iLt x y=decide (x<y):=by
 cases x<;>cases y<;>unfold iLt<;>simp only
 case ofNat.ofNat m n =>
  cases hb:Nat.blt m n
  .have:=blt_ge hb
   symm; rw [decide_eq_false_iff_not]; simp only [Int.ofNat_eq_natCast]; omega
  .have:=blt_lt hb
   symm; rw [decide_eq_true_eq]; simp only [Int.ofNat_eq_natCast]; omega
 case ofNat.negSucc m n=>symm; rw [decide_eq_false_iff_not]; simp only [Int.ofNat_eq_natCast,Int.negSucc_eq]; omega
 case negSucc.ofNat m n=>symm; rw [decide_eq_true_eq]; simp only [Int.ofNat_eq_natCast,Int.negSucc_eq]; omega
 case negSucc.negSucc m n =>
  cases hb:Nat.blt n m
  .have:=blt_ge hb
   symm; rw [decide_eq_false_iff_not]; simp only [Int.negSucc_eq]; omega
  .have:=blt_lt hb
   symm; rw [decide_eq_true_eq]; simp only [Int.negSucc_eq]; omega
theorem beq_ne {m n:Nat} (h:Nat.beq m n=false):m≠n:=fun e=>by
 subst e
 simp at h
theorem iEq_eq (x y:Int):iEq x y=(x == y):=by
 cases x<;>cases y<;>unfold iEq<;>simp only
 case ofNat.ofNat m n =>
  cases hb:Nat.beq m n
  .have:=beq_ne hb
   symm; rw [beq_eq_false_iff_ne]; intro e; exact this (Int.ofNat.inj e)
  .rw [Nat.eq_of_beq_eq_true hb]; simp
 case ofNat.negSucc m n=>symm; rw [beq_eq_false_iff_ne]; intro e; cases e
 case negSucc.ofNat m n=>symm; rw [beq_eq_false_iff_ne]; intro e; cases e
 case negSucc.negSucc m n =>
  cases hb:Nat.beq m n
  .have:=beq_ne hb
   symm; rw [beq_eq_false_iff_ne]; intro e; exact this (Int.negSucc.inj e)
  .rw [Nat.eq_of_beq_eq_true hb]; simp
theorem iLt_not (x y:Int):(!(iLt x y))=decide (y<=x):=by
 rw [iLt_eq]
 by_cases h:x<y
 .have:¬ y<=x:=by omega
  simp [this,h]
 .have:y<=x:=by omega
  simp [this,h]
theorem cmp_run {P:Program} {op:BinOp} {t:TypeId} {k:IntKind} {m n:Int} {v:Value} (h:fastC op m n=some v) (w:World):(binOp op t (.int k m) (.int k n)).run P w = .ok v w:=by
 cases op<;>simp only [fastC,reduceCtorEq,Option.some.injEq] at h<;>subst h<;>simp [binOp,Op.intCmp,iEq_eq,iLt_not,bne]
 all_goals simp [iLt_eq]
theorem fast_run {P:Program} {op:BinOp} {t:TypeId} {p q v:Value} (h:fastB op p q=some v) (w:World):(binOp op t p q).run P w = .ok v w:=by
 unfold fastB at h
 split at h
 .rename_i m n
  cases op<;>simp only [fastI,reduceCtorEq,Option.some.injEq] at h
  case add=>subst h; simp [binOp,Op.intArith,wrapF_eq]
  case sub=>subst h; simp [binOp,Op.intArith,wrapF_eq]; rfl
  case mul=>subst h; simp [binOp,Op.intArith,wrapF_eq]
  all_goals exact cmp_run (by simp only [fastC,Option.some.injEq]; exact h) w
 .exact cmp_run h w
 .cases h
theorem fast_ints {op:BinOp} {p q v:Value} (h:fastB op p q=some v):isPlain p=true/\isPlain q=true/\isPlain v=true/\∃ k m l n,p = .int k m/\q = .int l n:=by
 unfold fastB at h
 split at h
 .rename_i m n
  refine ⟨rfl,rfl,?_,_,_,_,_,rfl,rfl⟩
  cases op<;>simp only [fastI,reduceCtorEq,Option.some.injEq] at h<;>subst h<;>rfl
 .rename_i m n
  refine ⟨rfl,rfl,?_,_,_,_,_,rfl,rfl⟩
  cases op<;>simp only [fastC,reduceCtorEq,Option.some.injEq] at h<;>subst h<;>rfl
 .cases h
theorem op_fast [LG] {E:Env} (hE:EnvT E) {o:Oper} {nm:Nat} {θ:Th} {h:Hp} {w:World} {a:Act} {T:Tm} (hr:HR θ h w) (ht:TO θ T a o) {op:BinOp} {t t2:TypeId} {x y:Operand} {p q v:Value} (ho:o.op = .binOp op t x y t2)
 (hx:opv T x=some p) (hy:opv T y=some q) (hf:fastB op p q=some v):OpOk E.P o nm θ h w a v h:=by
 obtain ⟨h1,h2,h3,k,m,l,n,rfl,rfl⟩:=fast_ints hf
 have e1:=W_plain h1 (ht _ (by simp [ho,Op.operands]) _ hx)
 have e2:=W_plain h2 (ht _ (by simp [ho,Op.operands]) _ hy)
 refine opOk_same hr (u:=v) ?_ (W_of_S (S_plain h3))
 have hg:(eqGuard op t x y (.int k m) (.int l n)).run E.P w = .ok () w:=by cases op<;>rfl
 simp [execOp,ho,e1,e2,hg,fast_run hf w]
theorem op_lenStr [LG] {E:Env} (hE:EnvT E) {o:Oper} {nm:Nat} {θ:Th} {h:Hp} {w:World} {a:Act} {T:Tm} (hr:HR θ h w) (ht:TO θ T a o) {c:Call} {s:ByteArray} {t:TypeId} {ti:TI}
 (ho:o.op = .call c) (hc:c.callee = .builtin .len) (hv:opvs (opv T) c.args.toList=some [.string s]) (htys:c.argTypes.toList=[t]) (hti:tget E.tt t=some ti) (hk:ti.kind=4):OpOk E.P o nm θ h w a (.int .i64 s.size) h:=by
 obtain ⟨i,d,z,fl,g1,g2,g3,g4,g5,rfl⟩:=ti_spec (hE _ _ hti)
 simp only at hk
 rw [kind_string hk] at g2
 have hw:=opvs_O (fun y hy=>ht y (by simp [ho,Op.operands,Call.operands]; exact .inr (by simpa using hy))) hv
 have hat:c.argTypes = #[t]:=by rw [<- Array.toArray_toList (xs:=c.argTypes),htys]
 have hm:=allPlain_eq (by rfl) hw
 refine opOk_same hr (u:=.int .i64 s.size) (run_builtin ho hc hm (s:=Builtin.len_ c.argTypes o.type #[.string s]) (fun _=>rfl) ?_) rfl
 simp [Builtin.len_,hat,run_underlying g2,goInt]
theorem op_min [LG] {E:Env} (hE:EnvT E) {o:Oper} {nm:Nat} {θ:Th} {h:Hp} {w:World} {a:Act} {T:Tm} (hr:HR θ h w) (ht:TO θ T a o) {c:Call} {k l:IntKind} {x y:Int}
 (ho:o.op = .call c) (hc:c.callee = .builtin .min) (hv:opvs (opv T) c.args.toList=some [.int k x,.int l y]):OpOk E.P o nm θ h w a (.int k (bif iLt y x then y else x)) h:=by
 have hw:=opvs_O (fun y hy=>ht y (by simp [ho,Op.operands,Call.operands]; exact .inr (by simpa using hy))) hv
 have hm:=allPlain_eq (by rfl) hw
 refine opOk_same hr (u:=.int k (bif iLt y x then y else x)) (run_builtin ho hc hm (s:=Builtin.min_ c.argTypes o.type #[.int k x,.int l y]) (fun _=>rfl) ?_) rfl
 rw [iLt_eq]
 by_cases hlt:y<x<;>simp [Builtin.min_,Builtin.min2,hlt]
theorem op_max [LG] {E:Env} (hE:EnvT E) {o:Oper} {nm:Nat} {θ:Th} {h:Hp} {w:World} {a:Act} {T:Tm} (hr:HR θ h w) (ht:TO θ T a o) {c:Call} {k l:IntKind} {x y:Int}
 (ho:o.op = .call c) (hc:c.callee = .builtin .max) (hv:opvs (opv T) c.args.toList=some [.int k x,.int l y]):OpOk E.P o nm θ h w a (.int k (bif iLt x y then y else x)) h:=by
 have hw:=opvs_O (fun y hy=>ht y (by simp [ho,Op.operands,Call.operands]; exact .inr (by simpa using hy))) hv
 have hm:=allPlain_eq (by rfl) hw
 refine opOk_same hr (u:=.int k (bif iLt x y then y else x)) (run_builtin ho hc hm (s:=Builtin.max_ c.argTypes o.type #[.int k x,.int l y]) (fun _=>rfl) ?_) rfl
 rw [iLt_eq]
 by_cases hlt:x<y<;>simp [Builtin.max_,Builtin.max2,hlt]
theorem op_not [LG] {E:Env} (hE:EnvT E) {o:Oper} {nm:Nat} {θ:Th} {h:Hp} {w:World} {a:Act} {T:Tm} (hr:HR θ h w) (ht:TO θ T a o) {t:TypeId} {x:Operand} {b:Bool} (ho:o.op = .unOp .not t x)
 (hx:opv T x=some (.bool b)):OpOk E.P o nm θ h w a (.bool (!b)) h:=by
 have e1:=W_plain rfl (ht _ (by simp [ho,Op.operands]) _ hx)
 refine opOk_same hr (u:=.bool (!b)) ?_ rfl
 simp [execOp,ho,e1,Op.unary]
theorem xop_sound [LG] {E:Env} (hE:EnvT E) {o:Oper} {nm:Nat} {θ:Th} {h h':Hp} {w:World} {a:Act} {T:Tm} {v:Value} (hr:HR θ h w) (ht:TO θ T a o) {call:Nat->List Value->Hp->Option (Value × Hp)} (hcall:CallAt E.P call nm h) (hnm:θ nm=none)
 (hx:xop E call nm o T h=some (v,h')):OpWp E.P o nm θ h w a v h':=by
 unfold xop xopR at hx
 split at hx
 .rename_i x ho
  unfold xMove at hx
  obtain ⟨u,k1,k2⟩:=ob_some hx
  cases k2
  exact (op_move hE hr ht ho k1).wp
 .rename_i x ho
  unfold xMove at hx
  obtain ⟨u,k1,k2⟩:=ob_some hx
  cases k2
  exact (op_assign hE hr ht ho k1).wp
 .rename_i c x y ho
  unfold xPick at hx
  split at hx
  .rename_i hc
   obtain ⟨u,k1,k2⟩:=ob_some hx
   cases k2
   exact (op_pick hE hr ht ho hc (by simpa using k1)).wp
  .rename_i hc
   obtain ⟨u,k1,k2⟩:=ob_some hx
   cases k2
   exact (op_pick hE hr ht ho hc (by simpa using k1)).wp
  .cases hx
 .rename_i t ho
  unfold xAlloc at hx
  obtain ⟨ti,k1,k2⟩:=ob_some hx
  cases k2
  exact (op_alloc hE hr ht hnm ho k1).wp
 .rename_i t x ho
  unfold xBox at hx
  obtain ⟨u,k1,k2⟩:=ob_some hx
  obtain ⟨cs,k3,k4⟩:=ob_some k2
  cases k4
  exact (op_box hE hr ht hnm ho k1 k3).wp
 .rename_i t parts ho
  unfold xBuild at hx
  obtain ⟨ti,k1,k2⟩:=ob_some hx
  cases hk:Nat.beq ti.kind 3<;>simp only [hk,cond_true,cond_false] at k2
  .cases hk2:Nat.beq ti.kind 2<;>simp only [hk2,cond_true,cond_false,reduceCtorEq] at k2
   obtain ⟨ei,k3,k4⟩:=ob_some k2
   obtain ⟨ps,k5,k6⟩:=ob_some k4
   obtain ⟨cs,k7,k8⟩:=ob_some k6
   cases k8
   exact (op_build_array hE hr ht ho k1 (Nat.eq_of_beq_eq_true hk2) k3 k5 k7).wp
  .obtain ⟨ps,k5,k6⟩:=ob_some k2
   obtain ⟨cs,k7,k8⟩:=ob_some k6
   cases k8
   exact (op_build_struct hE hr ht ho k1 (Nat.eq_of_beq_eq_true hk) k5 k7).wp
 .rename_i t len parts ho
  unfold xBuildSlice at hx
  obtain ⟨ti,k1,k2⟩:=ob_some hx
  obtain ⟨ei,k3,k4⟩:=ob_some k2
  cases hq:(Nat.beq ti.kind 1&&Nat.ble (len*ei.size) 16777216&&Nat.ble len 16777216&&Nat.beq ei.zero.length ei.size)<;>simp only [hq,cond_true,cond_false,reduceCtorEq] at k4
  simp only [Bool.and_eq_true] at hq
  obtain ⟨ps,k5,k6⟩:=ob_some k4
  obtain ⟨cs,k7,k8⟩:=ob_some k6
  cases k8
  exact (op_buildSlice hE hr ht hnm ho k1 (Nat.eq_of_beq_eq_true hq.1.1.1) k3 (Nat.le_of_ble_eq_true hq.1.1.2) (Nat.le_of_ble_eq_true hq.1.2) (Nat.eq_of_beq_eq_true hq.2) k5 k7).wp
 .rename_i t x ho
  unfold xLoad at hx
  split at hx
  .rename_i ad hop
   obtain ⟨ti,k1,k2⟩:=ob_some hx
   exact (op_load hE hr ht ho hop k1 k2).wp
  .cases hx
 .rename_i t x y ho
  unfold xStore at hx
  split at hx
  .rename_i ad u hop1 hop2
   obtain ⟨ti,k1,k2⟩:=ob_some hx
   obtain ⟨cs,k3,k4⟩:=ob_some k2
   cases hl:Nat.beq cs.length ti.size<;>simp only [hl,cond_true,cond_false,reduceCtorEq] at k4
   obtain ⟨h2,k5,k6⟩:=ob_some k4
   cases k6
   exact (op_store hE hr ht ho hop1 hop2 k1 k3 (Nat.eq_of_beq_eq_true hl) k5).wp
  .cases hx
 .rename_i x ho
  unfold xNil at hx
  split at hx
  .rename_i ad hop
   cases hx
   exact (op_nilCheck_ptr hE hr ht ho hop).wp
  .rename_i g f1 f2 hop
   cases hx
   exact (op_nilCheck_func hE hr ht ho hop).wp
  .cases hx
 .rename_i op t x y t2 ho
  unfold xBin at hx
  split at hx
  .rename_i p q hp hq
   split at hx
   .rename_i v' hf
    cases hx
    exact (op_fast hE hr ht ho hp hq hf).wp
   unfold xBinEq at hx
   cases hb:(plainA p&&plainA q)<;>simp only [hb,cond_true,cond_false] at hx
   .obtain ⟨ti,k1,k2⟩:=ob_some hx
    cases hk:nilKind ti.kind p<;>simp only [hk,cond_true,cond_false,reduceCtorEq] at k2
    cases op<;>simp only [reduceCtorEq] at k2
    case eql =>
     obtain ⟨r,k3,k4⟩:=ob_some k2
     cases k4
     exact (op_nilEq hE hr ht ho hp hq k1 hk k3 (.inl rfl)).wp
    case neq =>
     obtain ⟨r,k3,k4⟩:=ob_some k2
     cases k4
     exact (op_nilEq hE hr ht ho hp hq k1 hk k3 (.inr rfl)).wp
   .exact (op_plain hE hr ht (by rw [ho]; intro _ _ e; cases e) hx).wp
  .cases hx
 .rename_i op t x ho
  unfold xUn at hx
  split at hx
  .rename_i b hb
   cases hx
   exact (op_not hE hr ht ho hb).wp
  .exact (op_plain hE hr ht (by rw [ho]; intro _ _ e; cases e) hx).wp
 .rename_i src dst x ho
  unfold xConv at hx
  split at hx
  .rename_i s hop
   obtain ⟨ti,k1,k2⟩:=ob_some hx
   cases hq:Nat.beq ti.kind 1<;>simp only [hq,cond_true,cond_false] at k2
   .exact (op_plain hE hr ht (by rw [ho]; intro _ _ e; cases e) k2).wp
   .obtain ⟨ei,k3,k4⟩:=ob_some k2
    obtain ⟨si,k5,k6⟩:=ob_some k4
    cases hq2:(Nat.beq ei.kind 6&&Nat.beq ei.size 1)<;>simp only [hq2,cond_true,cond_false,reduceCtorEq] at k6
    simp only [Bool.and_eq_true] at hq2
    unfold xStrB at k6
    cases hq3:(Nat.beq nm h.nxt&&Nat.ble s.size 1000000)<;>simp only [hq3,cond_true,cond_false,reduceCtorEq] at k6
    cases k6
    exact (op_strB hE hr ht hnm ho hop k1 k5 k3 (Nat.eq_of_beq_eq_true hq) (Nat.eq_of_beq_eq_true hq2.1)).wp
  .rename_i sa len cap hop
   obtain ⟨ti,k1,k2⟩:=ob_some hx
   obtain ⟨si,k3,k4⟩:=ob_some k2
   obtain ⟨ei,k5,k6⟩:=ob_some k4
   cases hq:(Nat.beq ti.kind 4&&Nat.beq si.kind 1&&Nat.beq ei.kind 6)<;>simp only [hq,cond_true,cond_false,reduceCtorEq] at k6
   simp only [Bool.and_eq_true] at hq
   obtain ⟨cs,k7,k8⟩:=ob_some k6
   obtain ⟨bs,k9,k10⟩:=ob_some k8
   cases k10
   exact (op_bytes hE hr ht ho hop k1 k3 k5 (Nat.eq_of_beq_eq_true hq.1.1) (Nat.eq_of_beq_eq_true hq.1.2) (Nat.eq_of_beq_eq_true hq.2) k7 k9).wp
  .exact (op_plain hE hr ht (by rw [ho]; intro _ _ e; cases e) hx).wp
  .cases hx
 .rename_i fn first cap ho
  unfold xMkF at hx
  split at hx
  .rename_i g vs us h1 h2
   cases hq:(vs.all capOk&&us.all capOk)<;>simp only [hq,cond_true,cond_false,reduceCtorEq] at hx
   simp only [Bool.and_eq_true] at hq
   cases hx
   exact (op_makeFunc hE hr ht ho h1 h2 hq.1 hq.2).wp
  .cases hx
 .rename_i t l c ho
  unfold xMake at hx
  split at hx
  .rename_i k1 n k2 k hl hc
   obtain ⟨ti,j1,j2⟩:=ob_some hx
   obtain ⟨ei,j3,j4⟩:=ob_some j2
   cases hq:(Nat.beq ti.kind 1&&decide (0<=n)&&decide (n<=k)&&decide (k<=1000000)&&Nat.ble ei.bytes 1000000&&Nat.beq ei.zero.length ei.size)<;>simp only [hq,cond_true,cond_false,reduceCtorEq] at j4
   simp only [Bool.and_eq_true,decide_eq_true_eq] at hq
   cases j4
   exact (op_makeSlice hE hr ht hnm ho hl hc j1 j3 (Nat.eq_of_beq_eq_true hq.1.1.1.1.1) hq.1.1.1.1.2 hq.1.1.1.2 hq.1.1.2 (Nat.le_of_ble_eq_true hq.1.2) (Nat.eq_of_beq_eq_true hq.2)).wp
  .cases hx
 .rename_i t x lo hi mx ho
  unfold xSlc at hx
  split at hx
  .rename_i sa len cap hop
   obtain ⟨ti,k1,k2⟩:=ob_some hx
   obtain ⟨ei,k3,k4⟩:=ob_some k2
   cases hk:Nat.beq ti.kind 1<;>simp only [hk,cond_true,cond_false,reduceCtorEq] at k4
   split at k4
   .rename_i lov hiv mxv j1 j2 j3
    obtain ⟨u,k5,k6⟩:=ob_some k4
    cases k6
    exact (op_slice hE hr ht ho hop k1 k3 (Nat.eq_of_beq_eq_true hk) j1 j2 j3 k5).wp
   .cases k4
  .exact (op_plain hE hr ht (by rw [ho]; intro _ _ e; cases e) hx).wp
  .cases hx
 .rename_i s x f ho
  unfold xField at hx
  split at hx
  .rename_i ad hop
   obtain ⟨ti,k1,k2⟩:=ob_some hx
   obtain ⟨fl,k3,k4⟩:=ob_some k2
   cases hq:(Nat.beq ti.kind 3&&!(Nat.beq fl.2 0)&&ad.spot.isNone)<;>simp only [hq,cond_true,cond_false,reduceCtorEq] at k4
   simp only [Bool.and_eq_true,Bool.not_eq_true'] at hq
   cases k4
   exact (op_fieldAddr hE hr ht ho hop k1 k3 (Nat.eq_of_beq_eq_true hq.1.1) (fun e=>by have:=hq.1.2; rw [e] at this; cases this)).wp
  .cases hx
 .rename_i t x ix ho
  unfold xIdx at hx
  split at hx
  .rename_i ad len cap k i hop1 hop2
   obtain ⟨ti,k1,k2⟩:=ob_some hx
   obtain ⟨ei,k3,k4⟩:=ob_some k2
   cases hq:(Nat.beq ti.kind 1&&decide (0<=i)&&decide (i<len)&&ad.spot.isNone)<;>simp only [hq,cond_true,cond_false,reduceCtorEq] at k4
   simp only [Bool.and_eq_true,decide_eq_true_eq] at hq
   cases k4
   exact (op_indexAddr_slice hE hr ht ho hop1 hop2 k1 k3 (Nat.eq_of_beq_eq_true hq.1.1.1) hq.1.1.2 hq.1.2).wp
  .rename_i ad k i hop1 hop2
   obtain ⟨ti,k1,k2⟩:=ob_some hx
   obtain ⟨ei,k3,k4⟩:=ob_some k2
   cases hq:(Nat.beq ti.kind 2&&decide (0<=i)&&decide (i<ti.alen)&&ad.spot.isNone)<;>simp only [hq,cond_true,cond_false,reduceCtorEq] at k4
   simp only [Bool.and_eq_true,decide_eq_true_eq] at hq
   cases k4
   exact (op_indexAddr_array hE hr ht ho hop1 hop2 k1 k3 (Nat.eq_of_beq_eq_true hq.1.1.1) hq.1.1.2 hq.1.2).wp
  .cases hx
 .rename_i ho
  exact (op_plain hE hr ht (by rw [ho]; intro _ _ e; cases e) hx).wp
 .rename_i t i ho
  unfold xExtract at hx
  split at hx
  .rename_i vs hop
   obtain ⟨u,k1,k2⟩:=ob_some hx
   cases k2
   exact (op_extract hE hr ht ho hop k1).wp
  .cases hx
 .rename_i t r ho
  cases r with
  | none=>cases hx; exact (op_makeMap hE hr hnm ho).wp
  | some r=>cases hx
 .rename_i t x ix ok ho
  exact (op_lookup hE hr ht ho hx).wp
 .rename_i t m k x ho
  exact (op_mapUpdate hE hr ht ho hx).wp
 .rename_i c ho
  unfold xCall at hx
  split at hx
  .rename_i f hc
   unfold xCallV at hx
   split at hx
   .rename_i g first cap vs hf hvs
    cases hg:Nat.blt g unkU<;>simp only [hg,cond_true,cond_false,reduceCtorEq] at hx
    exact op_call hE hr ht hcall ho hc hf hvs (blt_lt hg) hx
   .rename_i l first cap vs hf hvs
    exact op_yield hE hr ht hcall ho hc hf hvs hx
   .cases hx
  .rename_i b hc
   unfold xCallB at hx
   split at hx
   .rename_i vs hvs
    split at hx
    .rename_i r hb
     have hx:=hb.trans hx
     clear hb
     unfold xbuiltin at hx
     split at hx
     .rename_i sa n k
      split at hx
      .rename_i t ht'
       obtain ⟨ti,k1,k2⟩:=ob_some hx
       cases hk:Nat.beq ti.kind 1<;>simp only [hk,cond_true,cond_false,reduceCtorEq] at k2
       cases k2
       exact (op_len hE hr ht ho hc hvs ht' k1 (Nat.eq_of_beq_eq_true hk)).wp
      .cases hx
     .rename_i sa n k
      split at hx
      .rename_i t ht'
       obtain ⟨ti,k1,k2⟩:=ob_some hx
       cases hk:(Nat.beq ti.kind 1&&Nat.blt k unkU)<;>simp only [hk,cond_true,cond_false,reduceCtorEq] at k2
       simp only [Bool.and_eq_true] at hk
       cases k2
       exact (op_cap hE hr ht ho hc hvs ht' k1 (Nat.eq_of_beq_eq_true hk.1) (by have:=hk.2; unfold Nat.blt at this; exact Nat.le_of_ble_eq_true this)).wp
      .cases hx
     .rename_i sa len cap x
      split at hx
      .rename_i t u ht'
       obtain ⟨ti,k1,k2⟩:=ob_some hx
       obtain ⟨ei,k3,k4⟩:=ob_some k2
       obtain ⟨ui,k5,k6⟩:=ob_some k4
       cases hk:(Nat.beq ti.kind 1&&appK ui.kind x&&Nat.beq ei.zero.length ei.size)<;>simp only [hk,cond_true,cond_false,reduceCtorEq] at k6
       simp only [Bool.and_eq_true] at hk
       obtain ⟨nc,k7,k8⟩:=ob_some k6
       exact (op_append hE hr ht hnm ho hc hvs ht' k1 k3 k5 (Nat.eq_of_beq_eq_true hk.1.1) hk.1.2 (Nat.eq_of_beq_eq_true hk.2) k7 k8).wp
      .cases hx
     .rename_i sa len cap x
      split at hx
      .rename_i t u ht'
       obtain ⟨ti,k1,k2⟩:=ob_some hx
       obtain ⟨ei,k3,k4⟩:=ob_some k2
       cases hk:Nat.beq ti.kind 1<;>simp only [hk,cond_true,cond_false,reduceCtorEq] at k4
       split at k4
       .rename_i sb n k
        split at k4
        .rename_i ad bd
         obtain ⟨cs,k5,k6⟩:=ob_some k4
         obtain ⟨h2,k7,k8⟩:=ob_some k6
         cases k8
         exact (op_copy hE hr ht ho hc hvs ht' k1 k3 (Nat.eq_of_beq_eq_true hk) k5 k7).wp
        .cases hz:Nat.beq (min n len) 0<;>simp only [hz,cond_true,cond_false,reduceCtorEq] at k4
         cases k4
         exact (op_copy_none hE hr ht ho hc hvs ht' k1 k3 (Nat.eq_of_beq_eq_true hk) (Nat.eq_of_beq_eq_true hz)).wp
       .cases k4
      .cases hx
     .rename_i s
      split at hx
      .rename_i t ht'
       obtain ⟨ti,k1,k2⟩:=ob_some hx
       cases hk:Nat.beq ti.kind 4<;>simp only [hk,cond_true,cond_false,reduceCtorEq] at k2
       cases k2
       exact (op_lenStr hE hr ht ho hc hvs ht' k1 (Nat.eq_of_beq_eq_true hk)).wp
      .cases hx
     .rename_i k x l y
      cases hx
      exact (op_min hE hr ht ho hc hvs).wp
     .rename_i k x l y
      cases hx
      exact (op_max hE hr ht ho hc hvs).wp
     .cases hx
    .cases hq:(allPlain vs&&plainB b)<;>simp only [hq,cond_true,cond_false,reduceCtorEq] at hx
     exact (op_plain hE hr ht (by rw [ho]; intro _ _ e; cases e) hx).wp
   .cases hx
  .cases hx
 .cases hx
theorem want_sound {θ:Th} {T:Tm} {a:Act} {ops:Array Oper} {o:Oper} {b:Bool}
 (hg:∀ j want d v,o.guard=some (j,want)->(ops[j]?).bind (·.dst)=some d->tget T d=some v->∃ u,a.tmps[d]? = some u/\W θ v u) (h:wantA ops o T=some b):Region.wanted o (yielded ops a.tmps)=b:=by
 unfold wantA at h
 unfold Region.wanted
 split at h
 .rename_i hn
  rw [hn]
  exact Option.some.inj h
 .rename_i j want hs
  rw [hs]
  simp only
  split at h
  .rename_i d hd
   split at h
   .rename_i x hx
    obtain ⟨u,h1,h2⟩:=hg j want d _ hs hd hx
    have hu:u = .bool x:=h2
    subst hu
    unfold yielded
    rw [hd]
    simp only [Option.bind_some,h1]
    cases h
    cases x<;>cases want<;>rfl
   .rename_i x hx
    obtain ⟨u,h1,h2⟩:=hg j want d _ hs hd hx
    obtain ⟨us,hu,_⟩:=h2
    subst hu
    unfold yielded
    rw [hd]
    simp only [Option.bind_some,h1]
    cases h
    cases want<;>rfl
   .cases h
  .cases h
theorem TR.guard {θ:Th} {T:Tm} {a:Act} (ht:TR θ T a) {ops:Array Oper} {o:Oper}:∀ j want d v,o.guard=some (j,want)->(ops[j]?).bind (·.dst)=some d->tget T d=some v->∃ u,a.tmps[d]? = some u/\W θ v u :=
 fun _ _ d v _ _ h=>ht.tmps d v h
theorem dstsOk_get {N:Nat}:∀ {l:List Oper},dstsOk N l=true->∀ (i:Nat) (o:Oper),l[i]? = some o->∀ d,o.dst=some d->d<N
 | [],_,i,o,h,_,_=>by simp at h
 | p :: l,hl,i,o,h,d,hd=>by
   simp only [dstsOk,Bool.and_eq_true] at hl
   cases i with
   | zero =>
     simp at h
     subst h
     have:=hl.1
     unfold dstOk at this
     rw [hd] at this
     simp only at this
     unfold Nat.blt at this
     exact Nat.le_of_ble_eq_true this
   | succ i=>exact dstsOk_get hl.2 i o (by simpa using h) d hd
theorem undef_W {θ:Th}:W θ undefV undef:=⟨[],rfl,trivial⟩
theorem xops_sound [LG] {E:Env} (hE:EnvT E) {call:Nat->List Value->Hp->Option (Value × Hp)} (hcall:∀ h,CallAt E.P call h.nxt h) {ops:Array Oper} {N:Nat} {ro:Option Nat} :
 ∀ (l:List Oper) (k:Nat) (T T':Tm) (h h':Hp) (θ:Th) (a:Act) (w:World) (Q:Exit->Act->World->Prop),xops E call ops l T h=some (T',h')->(∀ j,l[j]? = ops[k+j]?)->dstsOk N l=true->TR θ T a->N<=a.tmps.size->HR θ h w->
  (∀ θ' a' w',Ext h.nxt θ h w θ' h' w'->HR θ' h' w'->TR θ' T' a'->a'.tmps.size=a.tmps.size->a'.defers=a.defers->Q .normal a' w')->wpOpsIn (FW ro) 0 E.P ops Q (List.range' k l.length) a w
 | [],k,T,T',h,h',θ,a,w,Q,hx,hl,hd,ht,hN,hr,hQ=>by
   cases hx
   exact hQ θ a w (Ext.refl _ _ _ _) hr ht rfl rfl
 | o :: l,k,T,T',h,h',θ,a,w,Q,hx,hl,hd,ht,hN,hr,hQ=>by
   have ho:ops[k]? = some o:=by have:=hl 0; simpa using this.symm
   have hl':∀ j,l[j]? = ops[k+1+j]?:=fun j=>by
    have:=hl (j+1)
    simp only [List.getElem?_cons_succ] at this
    rw [this]
    congr 1
    omega
   have hd':=hd
   simp only [dstsOk,Bool.and_eq_true] at hd
   have hdst:∀ d,o.dst=some d->d<a.tmps.size:=fun d e=>Nat.lt_of_lt_of_le (dstsOk_get hd' 0 o (by simp) d e) hN
   rw [List.length_cons,List.range'_succ,wpOpsIn_cons]
   unfold wpOpIn
   rw [ho]
   simp only
   simp only [xops] at hx
   split at hx
   .rename_i hw
    rw [if_pos (want_sound ht.guard hw)]
    split at hx
    .rename_i v h1 hop
     refine xop_sound hE hr (ht.opers o) (hcall h) (hr.fresh _ (Nat.le_refl _)) hop ro _ _ ?_
     intro θ1 w1 u e1 r1 w1'
     refine xops_sound hE hcall l (k+1) _ T' h1 h' θ1 _ w1 Q hx hl' hd.2 ((ht.mono e1.keep).put hdst w1') (by rw [size_put]; exact hN) r1 ?_
     intro θ' a' w' e2 r2 t2 s2 d2
     exact hQ θ' a' w' (e1.trans e2 (fun n hn _ e=>by have:=e1.nxt; omega)) r2 t2 (by rw [s2,size_put]) (by rw [d2,defers_put])
    .cases hx
   .rename_i hw
    rw [if_neg (by rw [want_sound ht.guard hw]; simp)]
    refine ⟨fun _ _=>fn_FW,xops_sound hE hcall l (k+1) _ T' h h' θ _ w Q hx hl' hd.2 (ht.put hdst undef_W) (by rw [size_put]; exact hN) hr ?_⟩
    intro θ' a' w' e2 r2 t2 s2 d2
    exact hQ θ' a' w' e2 r2 t2 (by rw [s2,size_put]) (by rw [d2,defers_put])
   .cases hx
theorem region_sound [LG] {E:Env} (hE:EnvT E) {call:Nat->List Value->Hp->Option (Value × Hp)} (hcall:∀ h,CallAt E.P call h.nxt h) {ops:Array Oper} {N id:Nat} {T T':Tm} {h h':Hp} {θ:Th} {a:Act} {w:World} {Q:Exit->Act->World->Prop} {ro:Option Nat}
 (hx:xops E call ops ops.toList T h=some (T',h')) (hd:dstsOk N ops.toList=true) (ht:TR θ T a) (hN:N<=a.tmps.size) (hr:HR θ h w)
 (hQ:∀ θ' a' w',Ext h.nxt θ h w θ' h' w'->HR θ' h' w'->TR θ' T' a'->a'.tmps.size=a.tmps.size->a'.defers=a.defers->Q .normal a' w'):(Code.region id ops false).wpIn (FW ro) 0 E.P Q a w:=by
 refine wpIn_region ?_
 have:=xops_sound (ro:=ro) hE hcall ops.toList 0 T T' h h' θ a w Q hx (fun j=>by simp) hd ht hN hr hQ
 rw [List.range_eq_range']
 simpa using this
end Go.Ev
