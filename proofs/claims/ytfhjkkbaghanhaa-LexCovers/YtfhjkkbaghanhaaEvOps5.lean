import Derived.Test.YtfhjkkbaghanhaaEvOps2
set_option linter.unusedVariables false
set_option linter.unusedSimpArgs false
namespace Go.Ev
open Go.Deep Go.RowKit
theorem op_makeSlice [LG] {E:Env} (hE:EnvT E) {o:Oper} {nm:Nat} {θ:Th} {h:Hp} {w:World} {a:Act} {T:Tm} (hr:HR θ h w) (ht:TO θ T a o) {t:TypeId} {l c:Operand} {k1 k2:IntKind} {n k:Int} {ti ei:TI}
 (hnm:θ nm=none) (ho:o.op = .makeSlice t l c) (hl:opv T l=some (.int k1 n)) (hc:opv T c=some (.int k2 k)) (hti:tget E.tt t=some ti) (hei:tget E.tt ti.elem=some ei) (hk:ti.kind=1)
 (h0:0≤n) (h1:n≤k) (h2:k≤1000000) (hb:ei.bytes≤1000000) (hzl:ei.zero.length=ei.size) :
 OpOk E.P o nm θ h w a (.slice (some ⟨nm,0,none⟩) n.toNat k.toNat) (halloc h nm (mkEnt (lrep ei.zero k.toNat) 0)):=by
 obtain ⟨i,d,z,fl,g1,g2,g3,g4,g5,rfl⟩:=ti_spec (hE _ _ hti)
 obtain ⟨i2,d2,z2,fs2,m1,m2,m3,m4,m5,rfl⟩:=ti_spec (hE _ _ hei)
 simp only at hk hei m1 m2 hb hzl
 rw [kind_slice hk] at g2
 obtain ⟨e1,e2⟩:=alloc_sound hr hnm [] (plain_all2 (plain_lrep m5 k.toNat)) (kindOf d).2.1 0 0 (fun e=>absurd rfl e)
 simp only [List.append_nil] at e1 e2
 have hln:a.eval l = .int k1 n:=ht _ (by simp [ho,Op.operands]) _ hl
 have hcn:a.eval c = .int k2 k:=ht _ (by simp [ho,Op.operands]) _ hc
 refine ⟨_,_,.slice (some ⟨w.heap.size,0,none⟩) n.toNat k.toNat,_,?_,.inl rfl,e2,e1,?_⟩
 ·have w1:=wrap_small h0 (by omega)
  have w2:=wrap_small (n:=k) (by omega) h2
  have hbig:(i2.bytes:Int)*k≤1000000000000:=by
   have:(i2.bytes:Int)*k≤1000000*1000000:=Int.mul_le_mul (by omega) h2 (by omega) (by omega)
   omega
  have hnb:¬ (281474976710656<(i2.bytes:Int)*k):=by omega
  have hk0:¬ k<0:=by omega
  have hn0:¬ n<0:=by omega
  have hnk:¬ k<n:=by omega
  by_cases e:k.toNat*i2.size=0
  ·have hn:(lrep z2.cells.toList k.toNat)=[]:=List.eq_nil_of_length_eq_zero (by rw [lrep_length,hzl,e])
   rw [hn]
   simp [execOp,ho,Instr.makeSlice,run_underlying g2,hln,hcn,asInt,asIntOf,w1,w2,run_typeInfo m1,hnb,hk0,hn0,hnk,run_sizeOf m1,e,newRow]
   have hz0:∀ f:Nat→Value,(Array.range 0).map f=([]:List Value).toArray:=fun f=>by simp
   rw [hz0]
  ·have hrow:=range_zero z2.cells.toList k.toNat
   rw [hzl] at hrow
   simp only [Array.toArray_toList] at hrow
   simp [execOp,ho,Instr.makeSlice,run_underlying g2,hln,hcn,asInt,asIntOf,w1,w2,run_typeInfo m1,hnb,hk0,hn0,hnk,run_sizeOf m1,e,newRow,run_zeroValue m1 m3]
   congr 2
 ·exact .inl ⟨rfl,(w.heap.size,0,0),k.toNat,by simp,.inl ⟨by unfold unkU; omega,rfl⟩,rfl⟩
theorem run_builtin {P:Program} {w w':World} {a:Act} {o:Oper} {c:Call} {b:Builtin} {us:List Value} {u:Value} (ho:o.op = .call c) (hc:c.callee = .builtin b) (hu:c.args.toList.map a.eval=us) {s:Sem Value}
 (hb:∀ consts,builtin b c.argTypes o.type consts us.toArray=(do pure (.value (← s)))) (hs:s.run P w = .ok u w'):(execOp a.eval o).run P w = .ok (.value u) w':=by
 have harr:c.args.map a.eval=us.toArray:=by apply Array.ext'; simp [← hu]
 simp [execOp,ho,resolve,hc,invoke,harr,hb,hs]
theorem op_len [LG] {E:Env} (hE:EnvT E) {o:Oper} {nm:Nat} {θ:Th} {h:Hp} {w:World} {a:Act} {T:Tm} (hr:HR θ h w) (ht:TO θ T a o) {c:Call} {sa:Option Addr} {n k:Nat} {t:TypeId} {ti:TI}
 (ho:o.op = .call c) (hc:c.callee = .builtin .len) (hv:opvs (opv T) c.args.toList=some [.slice sa n k]) (htys:c.argTypes.toList=[t]) (hti:tget E.tt t=some ti) (hk:ti.kind=1):OpOk E.P o nm θ h w a (.int .i64 n) h:=by
 obtain ⟨i,d,z,fl,g1,g2,g3,g4,g5,rfl⟩:=ti_spec (hE _ _ hti)
 simp only at hk
 rw [kind_slice hk] at g2
 have hw:=opvs_O (fun y hy=>ht y (by simp [ho,Op.operands,Call.operands]; exact .inr (by simpa using hy))) hv
 have hat:c.argTypes = #[t]:=by rw [← Array.toArray_toList (xs:=c.argTypes),htys]
 match hm:c.args.toList.map a.eval,hw with
 | [y],hw =>
   have hy:∃ x c',y = .slice x n c':=by
    cases sa with
    | none=>exact ⟨none,k,hw.1⟩
    | some ad=>obtain ⟨x,c',e,_⟩:=SlR.some hw.1; exact ⟨_,c',e⟩
   obtain ⟨x,c',rfl⟩:=hy
   refine opOk_same hr (u:=.int .i64 n) (run_builtin ho hc hm (s:=Builtin.len_ c.argTypes o.type #[.slice x n c']) (fun _=>rfl) ?_) rfl
   simp [Builtin.len_,hat,run_underlying g2,goInt]
theorem op_cap [LG] {E:Env} (hE:EnvT E) {o:Oper} {nm:Nat} {θ:Th} {h:Hp} {w:World} {a:Act} {T:Tm} (hr:HR θ h w) (ht:TO θ T a o) {c:Call} {sa:Option Addr} {n k:Nat} {t:TypeId} {ti:TI}
 (ho:o.op = .call c) (hc:c.callee = .builtin .cap) (hv:opvs (opv T) c.args.toList=some [.slice sa n k]) (htys:c.argTypes.toList=[t]) (hti:tget E.tt t=some ti) (hk:ti.kind=1) (hlt:k<unkU):OpOk E.P o nm θ h w a (.int .i64 k) h:=by
 obtain ⟨i,d,z,fl,g1,g2,g3,g4,g5,rfl⟩:=ti_spec (hE _ _ hti)
 simp only at hk
 rw [kind_slice hk] at g2
 have hw:=opvs_O (fun y hy=>ht y (by simp [ho,Op.operands,Call.operands]; exact .inr (by simpa using hy))) hv
 have hat:c.argTypes = #[t]:=by rw [← Array.toArray_toList (xs:=c.argTypes),htys]
 match hm:c.args.toList.map a.eval,hw with
 | [y],hw =>
   have hy:∃ x,y = .slice x n k:=by
    cases sa with
    | none=>exact ⟨none,hw.1⟩
    | some ad =>
      obtain ⟨x,c',e,hc'⟩:=SlR.some hw.1
      rw [hc' hlt] at e
      exact ⟨_,e⟩
   obtain ⟨x,rfl⟩:=hy
   refine opOk_same hr (u:=.int .i64 k) (run_builtin ho hc hm (s:=Builtin.cap_ c.argTypes o.type #[.slice x n k]) (fun _=>rfl) ?_) rfl
   simp [Builtin.cap_,hat,run_underlying g2,goInt]
theorem first_sound [LG] {P:Program} {θ:Th} {h:Hp} {w:World} (hr:HR θ h w) {sz n:Nat} {sa:Option Addr} {cap:Nat} {cs:List Value} {y:Value} (hy:W θ (.slice sa n cap) y) (hc:oldCells h sz sa n=some cs) :
 ∃ x c ds,y = .slice x n c∧all2 (S θ) cs ds∧ds.length=n*sz∧∀ k,(Builtin.firstCells sz n (.slice x n c)).run P { w with drawn:=k } = .ok (List.toArray ds) { w with drawn:=k }:=by
 cases sa with
 | none =>
   simp only [oldCells] at hc
   cases hn:Nat.beq n 0<;>simp [hn] at hc
   have hn0:n=0:=Nat.eq_of_beq_eq_true hn
   subst hc; subst hn0
   exact ⟨none,cap,[],hy,trivial,by simp,fun k=>by simp [Builtin.firstCells]⟩
 | some ad =>
   simp only [oldCells] at hc
   split at hc
   case h_2 _ sp hsp =>
    rcases (show SlR θ ad n cap y from hy) with ⟨q,_⟩ | ⟨_,hn0,_,x,c',e⟩
    ·rw [hsp] at q; cases q
    ·subst hn0
     cases hc
     exact ⟨_,c',[],e,trivial,by simp,fun k=>by simp [Builtin.firstCells,loadCells,loadCellsFrom]⟩
   rename_i hsp
   obtain ⟨hs,x,c',hx,hcap,e⟩:=SlR.here (show SlR θ ad n cap y from hy) hsp
   obtain ⟨ds,k1,k2,k3,k4⟩:=load_sound (P:=P) hr hc hx
   refine ⟨_,c',ds,e,k2,k4,fun k=>?_⟩
   have:=run_loadCells_list (P:=P) { w with drawn:=k } ⟨x.1,x.2.1+ad.off,none⟩ ds (fun j v hv=>by rw [add_addr]; exact k3 j v hv)
   rw [k4] at this
   simpa [Builtin.firstCells] using this
theorem grow_fits {need old bytes:Nat} (h:old<need) (hn:need≤1000000) (hb:bytes≤1000000):Builtin.nextslicecap need old*bytes≤281474976710656 :=
 growslice_fits h (Nat.le_trans (Nat.mul_le_mul hn hb) (by decide))
theorem W_unk {θ:Th} {nm len c b o:Nat} {x:Nat × Nat × Nat} (h:θ nm=some x) (h1:x.1=b) (h2:x.2.1=o) (hc:c=x.2.2):W θ (.slice (some ⟨nm,0,none⟩) len unkU) (.slice (some ⟨b,o,none⟩) len c) :=
 .inl ⟨rfl,x,c,h,.inr ⟨Nat.le_refl _,by rw [Nat.sub_self,Nat.sub_zero]; exact hc⟩,by rw [← h1,← h2]; rfl⟩
theorem append_core [LG] {P:Program} {o:Oper} {nm:Nat} {θ:Th} {h h':Hp} {w:World} {a:Act} (hr:HR θ h w) {ti:TI} {i:TypeInfo} {z:Value} {e:TypeId} (hi:P.info? e=some i) (hz:i.zero=some z) (hts:ti.size=i.size) (htb:ti.bytes=i.bytes) (hzl:z.cells.toList.length=i.size)
 {sa:Option Addr} {len cap n:Nat} {nc ns:List Value} {y v:Value} (hnm:θ nm=none) (hy:W θ (.slice sa len cap) y) (hnc:all2 (S θ) nc ns) (hnl:ns.length=n*i.size)
 (hroom:∀ (b:Addr) (c:Nat) (w':World),y = .slice (some b) len c→len+n≤c→(storeCells (b.add (len*i.size)) ns).run P w = .ok () w'→(execOp a.eval o).run P w = .ok (.value (.slice (some b) (len+n) c)) w')
 (hroom0:∀ (c:Nat),y = .slice none len c→len=0→n=0→(execOp a.eval o).run P w = .ok (.value (.slice none 0 c)) w)
 (hgrow:∀ (b:Option Addr) (c:Nat) (olds:List Value),y = .slice b len c→c<len+n→(Builtin.firstCells i.size len (.slice b len c)).run P w.drew = .ok olds.toArray w.drew→len+n≤1000000→i.bytes≤1000000→
   (execOp a.eval o).run P w = .ok (.value (.slice (some ⟨w.heap.size,0,none⟩) (len+n) (grownCap w (len+n) c e)))
     (w.drew.alloc (.cells ((olds++ns)++lrep z.cells.toList (grownCap w (len+n) c e-(len+n))).toArray e)))
 (hx:xappend h nm ti sa len cap n nc=some (v,h')):OpOk P o nm θ h w a v h':=by
 simp only [xappend] at hx
 cases hb:(Nat.ble (len+n) 1000000&&Nat.ble ti.bytes 1000000&&Nat.ble 1 ti.size)<;>simp only [hb,cond_true,cond_false] at hx
 ·cases hx
 simp only [Bool.and_eq_true] at hb
 have b1:=Nat.le_of_ble_eq_true hb.1.1
 have b2:=Nat.le_of_ble_eq_true hb.1.2
 have b3:=Nat.le_of_ble_eq_true hb.2
 rw [hts] at hx b3
 rw [htb] at b2
 have hncl:nc.length=n*i.size:=by rw [all2_len hnc,hnl]
 -- a new row
 have grow:∀ (b:Option Addr) (c:Nat) (old olds:List Value),y = .slice b len c→c<len+n→all2 (S θ) old olds→olds.length=len*i.size→
  (Builtin.firstCells i.size len (.slice b len c)).run P w.drew = .ok olds.toArray w.drew→
  ∃ θ' w' u nx,(execOp a.eval o).run P w = .ok nx w'∧(nx = .value u∨(nx = .skip∧u=undef))∧W θ' (.slice (some ⟨nm,0,none⟩) (len+n) unkU) u∧
   HR θ' (halloc h nm (mkEnt (old++nc) i.size)) w'∧Ext nm θ h w θ' (halloc h nm (mkEnt (old++nc) i.size)) w'∧θ'=(fun k=>if k=nm then some (w.heap.size,0,grownCap w (len+n) c e) else θ k)∧
   w'=w.drew.alloc (.cells ((olds++ns)++lrep z.cells.toList (grownCap w (len+n) c e-(len+n))).toArray e):=by
  intro b c old olds hyb hc hol hll hrun
  have hge:=grownCap_ge w (len+n) c e
  have hlen:(old++nc).length≤grownCap w (len+n) c e*i.size∧grownCap w (len+n) c e*i.size≤((olds++ns)++lrep z.cells.toList (grownCap w (len+n) c e-(len+n))).length:=by
   have l1:=all2_len hol
   simp only [List.length_append,lrep_length,hzl,hncl,hll,hnl,l1]
   have e1:len*i.size+n*i.size=(len+n)*i.size:=by rw [Nat.add_mul]
   rw [e1]
   have e2:(len+n)*i.size+(grownCap w (len+n) c e-(len+n))*i.size=grownCap w (len+n) c e*i.size:=by rw [← Nat.add_mul]; congr 1; omega
   exact ⟨Nat.mul_le_mul_right _ hge,by omega⟩
  obtain ⟨g1,g2⟩:=alloc_sound (hr.drawn (w.drawn+1)) hnm (lrep z.cells.toList (grownCap w (len+n) c e-(len+n))) (all2_append hol hnc) e (grownCap w (len+n) c e) i.size (fun _=>hlen)
  refine ⟨_,_,_,_,hgrow b c olds hyb hc hrun b1 b2,.inl rfl,?_,g1,(Ext.drawn nm θ h w (w.drawn+1)).trans g2 (fun _ _ k=>k),rfl,rfl⟩
  exact .inl ⟨rfl,(w.heap.size,0,grownCap w (len+n) c e),grownCap w (len+n) c e,by simp,.inr ⟨Nat.le_refl _,by simp⟩,rfl⟩
 cases hlt:Nat.blt cap unkU<;>simp only [hlt,cond_true,cond_false] at hx
 ·
  have hge:unkU≤cap:=by
   rcases Nat.lt_or_ge cap unkU with g | g
   ·have:Nat.blt cap unkU=true:=by unfold Nat.blt; exact Nat.ble_eq_true_of_le g
    rw [this] at hlt; cases hlt
   ·exact g
  cases sa with
  | none=>cases hx
  | some b =>
    simp only at hx
    have hbs:b.spot=none:=by
     have hx:=hx
     split at hx
     ·cases hx
     ·rename_i ent hent
      cases hq:(Nat.beq ent.unk i.size&&Nat.beq b.off ((cap-unkU)*i.size)&&b.spot.isNone&&wrB ent)<;>simp only [hq,cond_true,cond_false] at hx
      ·cases hx
      ·simp only [Bool.and_eq_true] at hq
       simpa using hq.1.2
    obtain ⟨hs,x,c',hxb,hcap,hyv⟩:b.spot=none∧∃ x c',θ b.block=some x∧capR x.2.2 cap c'∧y = .slice (some ⟨x.1,x.2.1+b.off,none⟩) len c':=SlR.here hy hbs
    rcases hcap with ⟨g,_⟩ | ⟨_,hc'⟩
    ·omega
    split at hx
    ·cases hx
    ·rename_i ent hent
     cases hq:(Nat.beq ent.unk i.size&&Nat.beq b.off ((cap-unkU)*i.size)&&b.spot.isNone&&wrB ent)<;>simp only [hq,cond_true,cond_false] at hx
     ·cases hx
     simp only [Bool.and_eq_true] at hq
     have q1:ent.unk=i.size:=Nat.eq_of_beq_eq_true hq.1.1.1
     have q2:b.off=(cap-unkU)*i.size:=Nat.eq_of_beq_eq_true hq.1.1.2
     have qw:=(wrB_spec hq.2).1
     generalize hsub:cap-unkU=sub at hc' q2
     obtain ⟨xx,hxx⟩:∃ xx,xx=x:=⟨x,rfl⟩
     subst hxx
     have r:=hr.ent _ _ _ hent hxb
     cases hin:Nat.ble (b.off+(len+n)*i.size) ent.len<;>simp only [hin,cond_true,cond_false] at hx
     ·
      obtain ⟨old,hold,hv⟩:=ob_some hx
      cases hv
      rw [q2] at hold
      by_cases hroomy:len+n≤c'
      ·obtain ⟨g1,g2,g3⟩:=derive_sound (P:=P) hr hent hxb hnm b3 q1 qw hold hnc hncl (by rw [← hc']; exact hroomy)
       refine ⟨_,_,.slice (some ⟨xx.1,xx.2.1+b.off,none⟩) (len+n) c',_,hroom _ c' _ hyv hroomy ?_,.inl rfl,g3,g2,?_⟩
       ·rw [add_addr,q2]; exact g1
       ·exact W_unk (x:=(xx.1,xx.2.1+sub*i.size,xx.2.2-sub)) (by simp) rfl (by rw [q2]) hc'
      ·have hl:hload h b (len*i.size)=some old:=by
        unfold hload
        rw [hs,hent]
        simp only
        rw [q2]; exact hold
       obtain ⟨ds,k1,k2,k3,k4⟩:=load_sound (P:=P) hr hl hxb
       have hrun:(Builtin.firstCells i.size len (.slice (some ⟨xx.1,xx.2.1+b.off,none⟩) len c')).run P w.drew = .ok ds.toArray w.drew:=by
        have:=run_loadCells_list (P:=P) w.drew ⟨xx.1,xx.2.1+b.off,none⟩ ds (fun j v hv=>by rw [add_addr]; exact k3 j v hv)
        rw [k4] at this
        simpa [Builtin.firstCells] using this
       obtain ⟨θ',w',u,nx,m1,m2,m3,m4,m5,rfl,m6⟩:=grow _ c' old ds hyv (by omega) k2 k4 hrun
       refine ⟨_,_,u,nx,m1,m2,?_,?_,m3⟩
       ·refine ⟨m5.keep,m5.only,m5.nxt,m5.size,m5.tape,m5.os,m5.output,m5.frame,fun k ek zk h1 huk h2=>?_,fun k ek zk h1 h2=>?_⟩
        all_goals
         simp only [halloc,tget_tset] at h1
         first | refine m5.ownw k ek zk ?_ huk h2 | refine m5.own k ek zk ?_ h2
         simp only [halloc,tget_tset]
         by_cases hk:nm=k
         ·rw [if_pos hk] at h1 ⊢; exact h1
         ·rw [if_neg hk] at h1 ⊢
          by_cases hk2:b.block=k
          ·rw [if_pos hk2] at h1; cases h1
          ·rw [if_neg hk2] at h1; exact h1
       ·have lift:∀ k ek,tget (halloc ⟨tset h.m b.block none,h.nxt⟩ nm (mkEnt (old++nc) i.size)).m k=some ek→tget (halloc h nm (mkEnt (old++nc) i.size)).m k=some ek:=by
         intro k ek h1
         simp only [halloc,tget_tset] at h1 ⊢
         by_cases hk:nm=k
         ·rw [if_pos hk] at h1 ⊢; exact h1
         ·rw [if_neg hk] at h1 ⊢
          by_cases hk2:b.block=k
          ·rw [if_pos hk2] at h1; cases h1
          ·rw [if_neg hk2] at h1; exact h1
        exact ⟨fun k ek xk h1=>m4.ent k ek xk (lift k ek h1),fun k m e1 e2 x1 x2 h1 h2 hne t1 t2=>m4.sep k m e1 e2 x1 x2 (lift _ _ h1) (lift _ _ h2) hne t1 t2,m4.fresh⟩
     ·
      have hle:=Nat.le_of_ble_eq_true hin
      obtain ⟨h2,hst,hv⟩:=ob_some hx
      cases hv
      obtain ⟨g1,g2,g3⟩:=store_sound (P:=P) hr hst (x:=xx) hxb hnc
      have hrm:=(r.room (by omega)).1
      rw [q1] at hrm
      have hroomy:len+n≤c':=by
       rw [hc']
       have hmul:(sub+(len+n))*i.size≤xx.2.2*i.size:=by rw [Nat.add_mul]; omega
       have:=Nat.le_of_mul_le_mul_right hmul (by omega)
       omega
      refine ⟨θ,_,.slice (some ⟨xx.1,xx.2.1+b.off,none⟩) (len+n) c',_,hroom _ c' _ hyv hroomy ?_,.inl rfl,g3 nm,g2,.inl ⟨hs,xx,c',hxb,.inr ⟨hge,by rw [hsub]; exact hc'⟩,rfl⟩⟩
      rw [add_addr,Nat.add_assoc]; exact g1
 ·
  have hltc:cap<unkU:=by unfold Nat.blt at hlt; exact Nat.le_of_ble_eq_true hlt
  cases hle:Nat.ble (len+n) cap<;>simp only [hle,cond_true,cond_false] at hx
  ·have hgt:cap<len+n:=by
    rcases Nat.lt_or_ge cap (len+n) with g | g
    ·exact g
    ·rw [Nat.ble_eq_true_of_le g] at hle; cases hle
   obtain ⟨old,hold,hv⟩:=ob_some hx
   cases hv
   obtain ⟨b,c,ds,hyv,k2,k4,hrun⟩:=first_sound (P:=P) hr hy hold
   have hcc:c=cap:=by
    cases sa with
    | none =>
      have h1:y = .slice none len cap:=hy
      rw [hyv] at h1; cases h1; rfl
    | some ad =>
      obtain ⟨_,x,c',_,hcap,h1⟩:ad.spot=none∧∃ x c',θ ad.block=some x∧capR x.2.2 cap c'∧y = .slice (some ⟨x.1,x.2.1+ad.off,none⟩) len c':=(show SlR θ ad len cap y from hy).resolve_right fun q=>by have:=q.2.2.1; omega
      rw [hyv] at h1
      cases h1
      rcases hcap with ⟨_,h2⟩ | ⟨h2,_⟩
      ·exact h2
      ·omega
   obtain ⟨θ',w',u,nx,m1,m2,m3,m4,m5,_,_⟩:=grow b c old ds hyv (by omega) k2 k4 (hrun (w.drawn+1))
   exact ⟨θ',w',u,nx,m1,m2,m5,m4,m3⟩
  ·have hroomy:=Nat.le_of_ble_eq_true hle
   cases sa with
   | none =>
     simp only at hx
     cases hz0:Nat.beq (len+n) 0<;>simp only [hz0,cond_true,cond_false] at hx
     ·cases hx
     ·cases hx
      have hn0:len+n=0:=Nat.eq_of_beq_eq_true hz0
      have h1:y = .slice none len cap:=hy
      exact opOk_same hr (hroom0 cap h1 (by omega) (by omega)) rfl
   | some b =>
     simp only at hx
     obtain ⟨h2,hst,hv⟩:=ob_some hx
     cases hv
     obtain ⟨hs,x,c',hxb,hcap,hyv⟩:b.spot=none∧∃ x c',θ b.block=some x∧capR x.2.2 cap c'∧y = .slice (some ⟨x.1,x.2.1+b.off,none⟩) len c':=(show SlR θ b len cap y from hy).resolve_right fun q=>by have:=q.2.2.1; omega
     obtain ⟨g1,g2,g3⟩:=store_sound (P:=P) hr hst (x:=x) hxb hnc
     rcases hcap with ⟨_,hc'⟩ | ⟨hge,_⟩
     ·subst hc'
      refine ⟨θ,_,.slice (some ⟨x.1,x.2.1+b.off,none⟩) (len+n) c',_,hroom _ c' _ hyv hroomy ?_,.inl rfl,g3 nm,g2,.inl ⟨hs,x,c',hxb,.inl ⟨hltc,rfl⟩,rfl⟩⟩
      rw [add_addr,Nat.add_assoc]; exact g1
     ·omega
end Go.Ev
set_option linter.unusedVariables false
set_option linter.unusedSimpArgs false
namespace Go.Ev
open Go.Deep Go.RowKit
theorem op_append [LG] {E:Env} (hE:EnvT E) {o:Oper} {nm:Nat} {θ:Th} {h h':Hp} {w:World} {a:Act} {T:Tm} {v:Value} (hr:HR θ h w) (ht:TO θ T a o) {c:Call} {sa:Option Addr} {len cap:Nat} {x:Value} {t u:TypeId} {ti ei ui:TI} {nc:Nat × List Value}
 (hnm:θ nm=none) (ho:o.op = .call c) (hc:c.callee = .builtin .append) (hv:opvs (opv T) c.args.toList=some [.slice sa len cap,x]) (htys:c.argTypes.toList=[t,u]) (hti:tget E.tt t=some ti) (hei:tget E.tt ti.elem=some ei) (hui:tget E.tt u=some ui)
 (hk:ti.kind=1) (hxk:appK ui.kind x=true) (hzl:ei.zero.length=ei.size) (hnew:newCells h ei x=some nc) (hx:xappend h nm ei sa len cap nc.1 nc.2=some (v,h')) :
 OpOk E.P o nm θ h w a v h':=by
 obtain ⟨i,d,z,fl,g1,g2,g3,g4,g5,rfl⟩:=ti_spec (hE _ _ hti)
 obtain ⟨i2,d2,z2,fs2,m1,m2,m3,m4,m5,rfl⟩:=ti_spec (hE _ _ hei)
 obtain ⟨i3,d3,z3,fs3,p1,p2,p3,p4,p5,rfl⟩:=ti_spec (hE _ _ hui)
 simp only at hk hei m1 m2 hzl hxk
 rw [kind_slice hk] at g2
 have hat:c.argTypes = #[t,u]:=by rw [← Array.toArray_toList (xs:=c.argTypes),htys]
 have hw:=opvs_O (fun y hy=>ht y (by simp [ho,Op.operands,Call.operands]; exact .inr (by simpa using hy))) hv
 match hm:c.args.toList.map a.eval,hw with
 | [y,xv],hw =>
   have hrun:∀ {s:Value} {w':World},(Builtin.append_ #[t,u] o.type #[y,xv]).run E.P w = .ok s w'→(execOp a.eval o).run E.P w = .ok (.value s) w':=fun {s w'} hs =>
    run_builtin ho hc hm (s:=Builtin.append_ c.argTypes o.type #[y,xv]) (fun _=>rfl) (by rw [hat]; exact hs)
   cases x with
   | slice xa n xc =>
     have hd3:=kind_slice (Nat.eq_of_beq_eq_true hxk)
     rw [hd3] at p2
     have hoc:nc.1=n∧oldCells h i2.size xa n=some nc.2:=by
      cases xa with
      | none =>
        simp only [newCells] at hnew
        cases hn:Nat.beq n 0<;>simp [hn] at hnew
        subst hnew
        exact ⟨(Nat.eq_of_beq_eq_true hn).symm,by simp [oldCells,hn]⟩
      | some ad =>
        simp only [newCells] at hnew
        obtain ⟨cs,k1,k2⟩:=ob_some hnew
        cases k2
        exact ⟨rfl,k1⟩
     obtain ⟨hn1,hoc⟩:=hoc
     obtain ⟨b,xc',ns,hxv,k2,k4,hfirst⟩:=first_sound (P:=E.P) hr hw.2.1 hoc
     subst hxv
     rw [hn1] at hx
     refine append_core hr m1 m3 rfl rfl hzl hnm hw.1 k2 k4 ?_ ?_ ?_ hx
     ·intro b' c' w' hy hroom hst
      subst hy
      exact hrun (app_room_slice w t u o.type _ i2 z2 g2 p2 m1 m3 b' len c' b n xc' ns (fun s'=>by
       by_cases e:s'=w
       ·subst e; exact .inl (hfirst s'.drawn)
       ·exact .inr e) hroom w' hst)
     ·intro c' hy hl0 hn0
      subst hy; subst hl0; subst hn0
      have:=hfirst w.drawn
      refine hrun ?_
      simp at k4
      subst k4
      have hf:(Builtin.firstCells i2.size 0 (.slice b 0 xc')).run E.P w = .ok #[] w:=this
      simp [Builtin.append_,run_underlying g2,run_underlying p2,sizeOf,typeInfo,m1,Builtin.lenOf,hf]
     ·intro b' c' olds hy hlt hold hb1 hb2
      subst hy
      exact hrun (app_grow_slice w t u o.type _ i2 z2 g2 p2 m1 m3 b' len c' b n xc' olds ns (hfirst (w.drawn+1)) hold hlt (by omega) (grow_fits hlt hb1 hb2))
   | int k n =>
     obtain ⟨k3,hd3⟩:=kind_int (Nat.eq_of_beq_eq_true hxk)
     rw [hd3] at p2
     have hxv:xv = .int k n:=hw.2.1
     subst hxv
     cases k<;>simp only [newCells,reduceCtorEq] at hnew
     case i64 =>
      cases hb:(decide (0≤n)&&decide (n≤1000000))<;>simp only [hb,cond_true,cond_false] at hnew
      ·cases hnew
      ·cases hnew
       simp only [Bool.and_eq_true,decide_eq_true_eq] at hb
       refine append_core hr m1 m3 rfl rfl hzl hnm hw.1 (plain_all2 (plain_lrep m5 n.toNat)) (by rw [lrep_length,hzl]) ?_ ?_ ?_ hx
       ·intro b' c' w' hy hroom hst
        subst hy
        by_cases hbb:i2.bytes≤1000000
        ·exact hrun (app_room_zeros w t u o.type _ i2 z2 g2 p2 m1 m3 hzl b' len c' n hb.1 hb.2 hbb hroom w' hst)
        ·exfalso
         simp only [xappend] at hx
         have:Nat.ble i2.bytes 1000000=false:=by
          cases hq:Nat.ble i2.bytes 1000000
          ·rfl
          ·exact absurd (Nat.le_of_ble_eq_true hq) hbb
         simp [this] at hx
       ·intro c' hy hl0 hn0
        subst hy; subst hl0
        have hn1:n=0:=by omega
        subst hn1
        refine hrun ?_
        have hw0:=wrap_small (n:=0) (by omega) (by omega)
        simp [Builtin.append_,run_underlying g2,run_underlying p2,sizeOf,typeInfo,m1,asInt,asIntOf,hw0]
       ·intro b' c' olds hy hlt hold hb1 hb2
        subst hy
        exact hrun (app_grow_zeros w t u o.type _ i2 z2 g2 p2 m1 m3 hzl b' len c' n hb.1 hb.2 hb2 olds hold hlt (by omega) (grow_fits hlt hb1 hb2))
   | _=>cases hxk
theorem all2_two {α β:Type} {p:α→β→Prop} {a b:α}:∀ {l:List β},all2 p [a,b] l→∃ x y,l=[x,y]∧p a x∧p b y
 | [x,y],h=>⟨x,y,rfl,h.1,h.2.1⟩
 | [],h=>h.elim
 | [_],h=>h.2.elim
 | _ :: _ :: _ :: _,h=>h.2.2.elim
theorem hload_spot {h:Hp} {a:Addr} {n:Nat} {cs:List Value} (hl:hload h a n=some cs):a.spot=none:=by
 unfold hload at hl
 split at hl
 ·rename_i h1 _; exact h1
 ·cases hl
theorem hstore_spot {h h':Hp} {a:Addr} {cs:List Value} (hl:hstore h a cs=some h'):a.spot=none:=by
 unfold hstore at hl
 split at hl
 ·rename_i h1 _; exact h1
 ·cases hl
theorem op_copy [LG] {E:Env} (hE:EnvT E) {o:Oper} {nm:Nat} {θ:Th} {h h':Hp} {w:World} {a:Act} {T:Tm} (hr:HR θ h w) (ht:TO θ T a o) {c:Call} {ad bd:Addr} {len cap n k:Nat} {t u:TypeId} {ti ei:TI} {cs:List Value}
 (ho:o.op = .call c) (hc:c.callee = .builtin .copy) (hv:opvs (opv T) c.args.toList=some [.slice (some ad) len cap,.slice (some bd) n k]) (htys:c.argTypes.toList=[t,u]) (hti:tget E.tt t=some ti) (hei:tget E.tt ti.elem=some ei)
 (hk:ti.kind=1) (hl:hload h bd (min n len*ei.size)=some cs) (hs:hstore h ad cs=some h'):OpOk E.P o nm θ h w a (.int .i64 (min n len:Nat)) h':=by
 obtain ⟨i,d,z,fl,g1,g2,g3,g4,g5,rfl⟩:=ti_spec (hE _ _ hti)
 obtain ⟨i2,d2,z2,fs2,m1,m2,m3,m4,m5,rfl⟩:=ti_spec (hE _ _ hei)
 simp only at hk hei m1 m2 hl
 rw [kind_slice hk] at g2
 have hat:c.argTypes = #[t,u]:=by rw [← Array.toArray_toList (xs:=c.argTypes),htys]
 have hw:=opvs_O (fun y hy=>ht y (by simp [ho,Op.operands,Call.operands]; exact .inr (by simpa using hy))) hv
 obtain ⟨y,xv,hm,hw1,hw2⟩:=all2_two hw
 ·obtain ⟨_,x1,c1,hx1,_,rfl⟩:ad.spot=none∧∃ x c',θ ad.block=some x∧capR x.2.2 cap c'∧y = .slice (some ⟨x.1,x.2.1+ad.off,none⟩) len c':=SlR.here hw1 (hstore_spot hs)
  obtain ⟨_,x2,c2,hx2,_,rfl⟩:bd.spot=none∧∃ x c',θ bd.block=some x∧capR x.2.2 k c'∧xv = .slice (some ⟨x.1,x.2.1+bd.off,none⟩) n c':=SlR.here hw2 (hload_spot hl)
  obtain ⟨ds,k1,k2,k3,k4⟩:=load_sound (P:=E.P) hr hl hx2
  obtain ⟨q1,q2,q3⟩:=store_sound (P:=E.P) hr hs hx1 k2
  refine ⟨θ,_,.int .i64 (min n len:Nat),_,run_builtin ho hc hm (s:=Builtin.copy_ c.argTypes o.type #[.slice (some ⟨x1.1,x1.2.1+ad.off,none⟩) len c1,.slice (some ⟨x2.1,x2.2.1+bd.off,none⟩) n c2]) (fun _=>rfl) ?_,.inl rfl,q3 nm,q2,rfl⟩
  have hmin:Nat.min n len=min n len:=rfl
  simp [Builtin.copy_,hat,run_underlying g2,Builtin.lenOf,Builtin.firstCells,run_sizeOf m1,hmin,k1,q1,goInt]
theorem op_copy_none [LG] {E:Env} (hE:EnvT E) {o:Oper} {nm:Nat} {θ:Th} {h:Hp} {w:World} {a:Act} {T:Tm} (hr:HR θ h w) (ht:TO θ T a o) {c:Call} {ad bd:Option Addr} {len cap n k:Nat} {t u:TypeId} {ti ei:TI}
 (ho:o.op = .call c) (hc:c.callee = .builtin .copy) (hv:opvs (opv T) c.args.toList=some [.slice ad len cap,.slice bd n k]) (htys:c.argTypes.toList=[t,u]) (hti:tget E.tt t=some ti) (hei:tget E.tt ti.elem=some ei)
 (hk:ti.kind=1) (hz:min n len=0):OpOk E.P o nm θ h w a (.int .i64 0) h:=by
 obtain ⟨i,d,z,fl,g1,g2,g3,g4,g5,rfl⟩:=ti_spec (hE _ _ hti)
 obtain ⟨i2,d2,z2,fs2,m1,m2,m3,m4,m5,rfl⟩:=ti_spec (hE _ _ hei)
 simp only at hk hei m1 m2
 rw [kind_slice hk] at g2
 have hat:c.argTypes = #[t,u]:=by rw [← Array.toArray_toList (xs:=c.argTypes),htys]
 have hw:=opvs_O (fun y hy=>ht y (by simp [ho,Op.operands,Call.operands]; exact .inr (by simpa using hy))) hv
 match hm:c.args.toList.map a.eval,hw with
 | [y,xv],hw =>
   have hy:∀ (sa:Option Addr) (l c0:Nat) (yv:Value),W θ (.slice sa l c0) yv→∃ x c',yv = .slice x l c':=by
    intro sa l c0 yv hh
    cases sa with
    | none=>exact ⟨none,c0,hh⟩
    | some ad=>obtain ⟨x,c',e,_⟩:=SlR.some hh; exact ⟨_,c',e⟩
   obtain ⟨x1,c1,rfl⟩:=hy _ _ _ _ hw.1
   obtain ⟨x2,c2,rfl⟩:=hy _ _ _ _ hw.2.1
   refine opOk_same hr (u:=.int .i64 0) (run_builtin ho hc hm (s:=Builtin.copy_ c.argTypes o.type #[.slice x1 len c1,.slice x2 n c2]) (fun _=>rfl) ?_) rfl
   have hmin:Nat.min n len=0:=hz
   cases x1<;>cases x2<;>simp [Builtin.copy_,hat,run_underlying g2,Builtin.lenOf,Builtin.firstCells,run_sizeOf m1,hmin,goInt,loadCells,loadCellsFrom,storeCells]
theorem eq_slice_l {P:Program} {t e:TypeId} (hu:P.underlying t=some (.slice e)) (d l c l' c':Nat) (b:Addr) (w:World):(Op.equalIn (d+1) t (.slice none l c) (.slice (some b) l' c')).run P w = .ok false w:=by
 rw [Op.equalIn]
 simp only [Sem.run_bind,run_underlying hu,Result.andThen_ok]
 rfl
theorem eq_slice_r {P:Program} {t e:TypeId} (hu:P.underlying t=some (.slice e)) (d l c l' c':Nat) (b:Addr) (w:World):(Op.equalIn (d+1) t (.slice (some b) l c) (.slice none l' c')).run P w = .ok false w:=by
 rw [Op.equalIn]
 simp only [Sem.run_bind,run_underlying hu,Result.andThen_ok]
 rfl
theorem eq_ptr_l {P:Program} {t e:TypeId} (hu:P.underlying t=some (.pointer e)) (d:Nat) (b:Addr) (w:World):(Op.equalIn (d+1) t (.pointer none) (.pointer (some b))).run P w = .ok false w:=by
 rw [Op.equalIn]
 simp only [Sem.run_bind,run_underlying hu,Result.andThen_ok]
 rfl
theorem eq_ptr_r {P:Program} {t e:TypeId} (hu:P.underlying t=some (.pointer e)) (d:Nat) (b:Addr) (w:World):(Op.equalIn (d+1) t (.pointer (some b)) (.pointer none)).run P w = .ok false w:=by
 rw [Op.equalIn]
 simp only [Sem.run_bind,run_underlying hu,Result.andThen_ok]
 rfl
theorem eq_func_r {P:Program} {t:TypeId} {p q:Array TypeId} {v:Bool} (hu:P.underlying t=some (.func p q v)) (d:Nat) (fn:Fn) (x y:Array Value) (w:World):(Op.equalIn (d+1) t (.func fn x y) .nilFunc).run P w = .ok false w:=by
 rw [Op.equalIn]
 simp only [Sem.run_bind,run_underlying hu,Result.andThen_ok]
 rfl
theorem eq_func_l {P:Program} {t:TypeId} {p q:Array TypeId} {v:Bool} (hu:P.underlying t=some (.func p q v)) (d:Nat) (fn:Fn) (x y:Array Value) (w:World):(Op.equalIn (d+1) t .nilFunc (.func fn x y)).run P w = .ok false w:=by
 rw [Op.equalIn]
 simp only [Sem.run_bind,run_underlying hu,Result.andThen_ok]
 rfl
theorem bin_of_equal {P:Program} {t:TypeId} {p q:Value} (hb1:binOp .eql t p q=(do pure (.bool (← Op.equal t p q)))) (hb2:binOp .neq t p q=(do pure (.bool (!(← Op.equal t p q))))) (he:∀ w,(Op.equal t p q).run P w = .ok false w) :
 (∀ w,(binOp .eql t p q).run P w = .ok (.bool false) w)∧(∀ w,(binOp .neq t p q).run P w = .ok (.bool (!false)) w) :=
 ⟨fun w=>by rw [hb1]; simp only [Sem.run_bind,he,Result.andThen_ok]; rfl,fun w=>by rw [hb2]; simp only [Sem.run_bind,he,Result.andThen_ok]; rfl⟩
theorem op_nilEq [LG] {E:Env} (hE:EnvT E) {o:Oper} {nm:Nat} {θ:Th} {h:Hp} {w:World} {a:Act} {T:Tm} (hr:HR θ h w) (ht:TO θ T a o) {op:BinOp} {t t2:TypeId} {x y:Operand} {p q:Value} {ti:TI} {r:Bool} (ho:o.op = .binOp op t x y t2)
 (hx:opv T x=some p) (hy:opv T y=some q) (hti:tget E.tt t=some ti) (hk:nilKind ti.kind p=true) (hn:nilEq p q=some r) (hop:op = .eql∨op = .neq):OpOk E.P o nm θ h w a (.bool (if op = .eql then r else !r)) h:=by
 obtain ⟨i,d,z,fl,g1,g2,g3,g4,g5,rfl⟩:=ti_spec (hE _ _ hti)
 simp only at hk
 have hwx:=ht _ (by simp [ho,Op.operands]) _ hx
 have hwy:=ht _ (by simp [ho,Op.operands]) _ hy
 have key:∃ p' q',a.eval x=p'∧a.eval y=q'∧(∀ w,(Op.equal t p' q').run E.P w = .ok r w)∧(∀ op',(eqGuard op' t x y p' q').run E.P w = .ok () w)∧(∀ w,(binOp .eql t p' q').run E.P w = .ok (.bool r) w)∧(∀ w,(binOp .neq t p' q').run E.P w = .ok (.bool (!r)) w):=by
  cases p<;>simp only [nilKind,Bool.false_eq_true] at hk
  case slice sa l c =>
   have hd:=kind_slice (Nat.eq_of_beq_eq_true hk)
   rw [hd] at g2
   cases sa with
   | none =>
     cases q<;>simp only [nilEq,reduceCtorEq] at hn
     case slice sb l' c' =>
      cases sb with
      | none=>simp [nilEq] at hn
      | some bd =>
        simp [nilEq] at hn
        subst hn
        obtain ⟨xx,cc,e,_⟩:=SlR.some hwy
        have e0:a.eval x = .slice none l c:=hwx
        have he:∀ w,(Op.equal t (.slice none l c) (.slice (some xx) l' cc)).run E.P w = .ok false w:=fun w=>eq_slice_l g2 9999 _ _ _ _ _ w
        refine ⟨_,_,e0,e,he,fun op'=>by cases op'<;>rfl,(bin_of_equal rfl rfl he).1,(bin_of_equal rfl rfl he).2⟩
   | some ad =>
     cases q<;>simp only [nilEq,reduceCtorEq] at hn
     case slice sb l' c' =>
      cases sb with
      | some bd=>simp [nilEq] at hn
      | none =>
        simp [nilEq] at hn
        subst hn
        obtain ⟨xx,cc,e,_⟩:=SlR.some hwx
        have e0:a.eval y = .slice none l' c':=hwy
        have he:∀ w,(Op.equal t (.slice (some xx) l cc) (.slice none l' c')).run E.P w = .ok false w:=fun w=>eq_slice_r g2 9999 _ _ _ _ _ w
        refine ⟨_,_,e,e0,he,fun op'=>by cases op'<;>rfl,(bin_of_equal rfl rfl he).1,(bin_of_equal rfl rfl he).2⟩
  case pointer sa =>
   have hd:=kind_pointer (Nat.eq_of_beq_eq_true hk)
   rw [hd] at g2
   cases sa with
   | none =>
     cases q<;>simp only [nilEq,reduceCtorEq] at hn
     case pointer sb =>
      cases sb with
      | none=>simp [nilEq] at hn
      | some bd =>
        simp [nilEq] at hn
        subst hn
        obtain ⟨_,xx,_,e⟩:=hwy
        have e0:a.eval x = .pointer none:=hwx
        have he:∀ w,(Op.equal t (.pointer none) (.pointer (some ⟨xx.1,xx.2.1+bd.off,none⟩))).run E.P w = .ok false w:=fun w=>eq_ptr_l g2 9999 _ w
        refine ⟨_,_,e0,e,he,fun op'=>by cases op'<;>rfl,(bin_of_equal rfl rfl he).1,(bin_of_equal rfl rfl he).2⟩
   | some ad =>
     cases q<;>simp only [nilEq,reduceCtorEq] at hn
     case pointer sb =>
      cases sb with
      | some bd=>simp [nilEq] at hn
      | none =>
        simp [nilEq] at hn
        subst hn
        obtain ⟨_,xx,_,e⟩:=hwx
        have e0:a.eval y = .pointer none:=hwy
        have he:∀ w,(Op.equal t (.pointer (some ⟨xx.1,xx.2.1+ad.off,none⟩)) (.pointer none)).run E.P w = .ok false w:=fun w=>eq_ptr_r g2 9999 _ w
        refine ⟨_,_,e,e0,he,fun op'=>by cases op'<;>rfl,(bin_of_equal rfl rfl he).1,(bin_of_equal rfl rfl he).2⟩
  case func fn f1 f2 =>
   obtain ⟨da,db,dc,hd⟩:=kind_func (Nat.eq_of_beq_eq_true hk)
   rw [hd] at g2
   cases q<;>simp only [nilEq,reduceCtorEq,Option.some.injEq] at hn
   subst hn
   obtain ⟨fn',fa,fb,e⟩:=W_func hwx
   have e0:a.eval y = .nilFunc:=hwy
   have he:∀ w,(Op.equal t (.func fn' fa fb) .nilFunc).run E.P w = .ok false w:=fun w=>eq_func_r g2 9999 _ _ _ w
   refine ⟨_,_,e,e0,he,fun op'=>by cases op'<;>rfl,(bin_of_equal rfl rfl he).1,(bin_of_equal rfl rfl he).2⟩
  case nilFunc =>
   obtain ⟨da,db,dc,hd⟩:=kind_func (Nat.eq_of_beq_eq_true hk)
   rw [hd] at g2
   cases q<;>simp only [nilEq,reduceCtorEq,Option.some.injEq] at hn
   case func fn f1 f2 =>
   subst hn
   obtain ⟨fn',fa,fb,e⟩:=W_func hwy
   have e0:a.eval x = .nilFunc:=hwx
   have he:∀ w,(Op.equal t .nilFunc (.func fn' fa fb)).run E.P w = .ok false w:=fun w=>eq_func_l g2 9999 _ _ _ w
   refine ⟨_,_,e0,e,he,fun op'=>by cases op'<;>rfl,(bin_of_equal rfl rfl he).1,(bin_of_equal rfl rfl he).2⟩
 obtain ⟨p',q',e1,e2,k1,k2,k3,k4⟩:=key
 rcases hop with rfl | rfl
 ·refine opOk_same hr (u:=.bool r) ?_ rfl
  simp [execOp,ho,e1,e2,k2,k3]
 ·refine opOk_same hr (u:=.bool (!r)) ?_ rfl
  simp [execOp,ho,e1,e2,k2,k4]
end Go.Ev
set_option linter.unusedVariables false
set_option linter.unusedSimpArgs false
namespace Go.Ev
open Go.Deep Go.RowKit
def OptN (ov:Option Value) (d l:Nat):Prop:=(ov=none∧l=d)∨∃ k n,ov=some (.int k n)∧0≤n∧l=Int.toNat n
theorem opt_nat {θ:Th} {T:Tm} {a:Act} {lo:Option Operand} {lov:Option Value} {d l:Nat} (ht:∀ y,lo=some y→∀ v,opv T y=some v→W θ v (a.eval y)) (h1:optv (opv T) lo=some lov) (h2:natOf d lov=some l):OptN (lo.map a.eval) d l:=by
 cases lo with
 | none =>
   simp only [optv,Option.some.injEq] at h1
   subst h1
   simp only [natOf,Option.some.injEq] at h2
   exact .inl ⟨rfl,h2.symm⟩
 | some x =>
   simp only [optv] at h1
   split at h1
   ·rename_i u hu
    cases h1
    cases u<;>simp only [natOf,reduceCtorEq] at h2
    case int k n =>
     cases hb:decide (0≤n)<;>simp only [hb,cond_true,cond_false,reduceCtorEq,Option.some.injEq] at h2
     have hw:a.eval x = .int k n:=ht x rfl _ hu
     exact .inr ⟨k,n,by simp [hw],of_decide_eq_true hb,h2.symm⟩
   ·cases h1
theorem run_sliceBound {P:Program} {w:World} {k:IntKind} {n:Int} {y:Nat} {code:BoundsCode} (h0:0≤n) (h1:n.toNat≤y):(Instr.sliceBound (.int k n) y code).run P w = .ok n.toNat w:=by
 have:n≤(y:Int):=by omega
 simp [Instr.sliceBound,asIntOf,h0,this]
theorem run_slice2 {P:Program} {w:World} {t e:TypeId} {i:TypeInfo} (hu:P.underlying t=some (.slice e)) (hi:P.info? e=some i) {sa:Option Addr} {len cap l u:Nat} {low high:Option Value}
 (hl:OptN low 0 l) (hh:OptN high len u) (h1:l≤u) (h2:u≤cap) :
 (Instr.sliceAt t (.slice sa len cap) low high none).run P w = .ok (.slice (if cap=l then sa else sa.map (·.add (l*i.size))) (u-l) (cap-l)) w:=by
 rcases hl with ⟨rfl,rfl⟩ | ⟨k1,n1,rfl,g1,rfl⟩<;>rcases hh with ⟨rfl,rfl⟩ | ⟨k2,n2,rfl,g2,rfl⟩
 ·simp [Instr.sliceAt,Instr.slice,Instr.sliceBounds,run_underlying hu,run_sizeOf hi]
 ·simp [Instr.sliceAt,Instr.slice,Instr.sliceBounds,run_underlying hu,run_sizeOf hi,run_sliceBound g2 h2]
 ·simp [Instr.sliceAt,Instr.slice,Instr.sliceBounds,run_underlying hu,run_sizeOf hi,run_sliceBound g1 h1]
 ·simp [Instr.sliceAt,Instr.slice,Instr.sliceBounds,run_underlying hu,run_sizeOf hi,run_sliceBound g1 h1,run_sliceBound g2 h2]
theorem run_slice3 {P:Program} {w:World} {t e:TypeId} {i:TypeInfo} (hu:P.underlying t=some (.slice e)) (hi:P.info? e=some i) {sa:Option Addr} {len cap l:Nat} {low:Option Value} {k2 k3:IntKind} {n2 n3:Int}
 (hl:OptN low 0 l) (g2:0≤n2) (g3:0≤n3) (h1:l≤n2.toNat) (h2:n2.toNat≤n3.toNat) (h3:n3.toNat≤cap) :
 (Instr.sliceAt t (.slice sa len cap) low (some (.int k2 n2)) (some (.int k3 n3))).run P w = .ok (.slice (if n3.toNat=l then sa else sa.map (·.add (l*i.size))) (n2.toNat-l) (n3.toNat-l)) w:=by
 rcases hl with ⟨rfl,rfl⟩ | ⟨k1,n1,rfl,g1,rfl⟩
 ·simp [Instr.sliceAt,Instr.slice,Instr.sliceBounds,run_underlying hu,run_sizeOf hi,run_sliceBound g2 h2,run_sliceBound g3 h3]
 ·simp [Instr.sliceAt,Instr.slice,Instr.sliceBounds,run_underlying hu,run_sizeOf hi,run_sliceBound g1 h1,run_sliceBound g2 h2,run_sliceBound g3 h3]
theorem capLow_le [LG] {θ:Th} {h:Hp} {w:World} (hr:HR θ h w) {ad:Addr} {cap sz c c':Nat} {x:Nat × Nat × Nat} (hx:θ ad.block=some x) (hc:capLow h ad cap sz=some c) (hcap:capR x.2.2 cap c'):c≤c':=by
 unfold capLow at hc
 cases hb:Nat.blt cap unkU<;>simp only [hb,cond_true,cond_false] at hc
 ·split at hc
  ·cases hc
  ·rename_i e he
   cases hq:(Nat.beq e.unk sz&&Nat.beq ad.off ((cap-unkU)*sz)&&Nat.ble 1 sz&&Nat.ble ad.off e.len)<;>simp only [hq,cond_true,cond_false,reduceCtorEq,Option.some.injEq] at hc
   simp only [Bool.and_eq_true] at hq
   have q1:e.unk=sz:=Nat.eq_of_beq_eq_true hq.1.1.1
   have q2:ad.off=(cap-unkU)*sz:=Nat.eq_of_beq_eq_true hq.1.1.2
   have q3:1≤sz:=Nat.le_of_ble_eq_true hq.1.2
   obtain ⟨y,hy⟩:∃ y,y=x:=⟨x,rfl⟩
   subst hy
   have r:=hr.ent _ _ _ he hx
   have hroom:=(r.room (by omega)).1
   rw [q1] at hroom
   rcases hcap with ⟨g,_⟩ | ⟨g,hcc⟩
   ·have:Nat.blt cap unkU=true:=by unfold Nat.blt; exact Nat.ble_eq_true_of_le g
    rw [this] at hb; cases hb
   ·generalize hs:cap-unkU=sub at q2 hcc
    subst hc
    rw [hcc]
    have h1:(e.len-ad.off)/sz≤(y.2.2*sz-sub*sz)/sz:=Nat.div_le_div_right (by omega)
    rw [← Nat.sub_mul,Nat.mul_div_cancel _ q3] at h1
    exact h1
 ·cases hc
  have hlt:cap<unkU:=by unfold Nat.blt at hb; exact Nat.le_of_ble_eq_true hb
  rcases hcap with ⟨_,rfl⟩ | ⟨g,_⟩
  ·exact Nat.le_refl _
  ·omega
theorem op_slice [LG] {E:Env} (hE:EnvT E) {o:Oper} {nm:Nat} {θ:Th} {h:Hp} {w:World} {a:Act} {T:Tm} {v:Value} (hr:HR θ h w) (ht:TO θ T a o) {t:TypeId} {x:Operand} {lo hi mx:Option Operand} {lov hiv mxv:Option Value} {sa:Option Addr} {len cap:Nat} {ti ei:TI}
 (ho:o.op = .slice t x lo hi mx) (hx:opv T x=some (.slice sa len cap)) (hti:tget E.tt t=some ti) (hei:tget E.tt ti.elem=some ei) (hk:ti.kind=1)
 (hlo:optv (opv T) lo=some lov) (hhi:optv (opv T) hi=some hiv) (hmx:optv (opv T) mx=some mxv) (hv:xslice h ei.size sa len cap lov hiv mxv=some v):OpOk E.P o nm θ h w a v h:=by
 obtain ⟨i,d,z,fl,g1,g2,g3,g4,g5,rfl⟩:=ti_spec (hE _ _ hti)
 obtain ⟨i2,d2,z2,fs2,m1,m2,m3,m4,m5,rfl⟩:=ti_spec (hE _ _ hei)
 simp only at hk hei m1 m2 hv
 rw [kind_slice hk] at g2
 have hwx:=ht _ (by simp [ho,Op.operands]) _ hx
 have hrun:∀ {u:Value},(Instr.sliceAt t (a.eval x) (lo.map a.eval) (hi.map a.eval) (mx.map a.eval)).run E.P w = .ok u w→(execOp a.eval o).run E.P w = .ok (.value u) w:=fun {u} hs=>by simp [execOp,ho,hs]
 unfold xslice at hv
 split at hv
 ·
  have hmn:mx.map a.eval=none:=by
   cases mx with
   | none=>rfl
   | some m =>
     simp only [optv] at hmx
     split at hmx<;>cases hmx
  split at hv
  ·rename_i l1 l2
   cases hv
   have e0:a.eval x = .slice none len cap:=hwx
   have n1:=opt_nat (fun y hy v=>ht y (by simp [ho,Op.operands,hy]) v) hlo l1
   have n2:=opt_nat (fun y hy v=>ht y (by simp [ho,Op.operands,hy]) v) hhi l2
   refine opOk_same hr (u:=.slice none 0 cap) (hrun ?_) rfl
   rw [e0,hmn,run_slice2 g2 m1 n1 n2 (Nat.le_refl _) (Nat.zero_le _)]
   simp
  ·cases hv
 ·rename_i b
  have hmn:mx.map a.eval=none:=by
   cases mx with
   | none=>rfl
   | some m =>
     simp only [optv] at hmx
     split at hmx<;>cases hmx
  cases hsn:b.spot.isNone with
  | false =>
    rw [hsn,cond_false] at hv
    split at hv
    ·rename_i l1 l2
     cases hv
     have n1:=opt_nat (fun y hy v=>ht y (by simp [ho,Op.operands,hy]) v) hlo l1
     have n2:=opt_nat (fun y hy v=>ht y (by simp [ho,Op.operands,hy]) v) hhi l2
     have hne:b.spot≠none:=fun e=>by rw [e] at hsn; cases hsn
     rcases (show SlR θ b len cap (a.eval x) from hwx) with ⟨q,_⟩ | ⟨_,hl0,q2,ad,c',e0⟩
     ·exact absurd q hne
     ·subst hl0
      have hr2:=run_slice2 (P:=E.P) (w:=w) (cap:=c') g2 m1 (sa:=some ad) n1 n2 (Nat.le_refl 0) (Nat.zero_le _)
      refine opOk_same hr (hrun (by rw [e0,hmn]; exact hr2)) (.inr ⟨hne,rfl,q2,?_⟩)
      by_cases q:c'=0
      ·exact ⟨_,_,by rw [if_pos q]⟩
      ·exact ⟨_,_,by rw [if_neg q]; rfl⟩
    ·cases hv
  | true =>
  rw [hsn,cond_true] at hv
  have hbs:b.spot=none:=by simpa using hsn
  obtain ⟨hs,xx,c',hxx,hcap,e0⟩:b.spot=none∧∃ xx c',θ b.block=some xx∧capR xx.2.2 cap c'∧a.eval x = .slice (some ⟨xx.1,xx.2.1+b.off,none⟩) len c':=SlR.here hwx hbs
  split at hv
  ·rename_i l u c l1 l2 l3
   have n1:=opt_nat (fun y hy v=>ht y (by simp [ho,Op.operands,hy]) v) hlo l1
   have n2:=opt_nat (fun y hy v=>ht y (by simp [ho,Op.operands,hy]) v) hhi l2
   have hcl:=capLow_le hr hxx l3 hcap
   cases hq:(Nat.ble l u&&Nat.ble u c&&Nat.ble len c&&true)<;>simp only [hq,cond_true,cond_false,reduceCtorEq] at hv
   simp only [Bool.and_eq_true] at hq
   have q1:=Nat.le_of_ble_eq_true hq.1.1.1
   have q2:=Nat.le_of_ble_eq_true hq.1.1.2
   have hr2:=run_slice2 (P:=E.P) (w:=w) g2 m1 (sa:=some ⟨xx.1,xx.2.1+b.off,none⟩) n1 n2 q1 (Nat.le_trans q2 hcl)
   cases hlt:Nat.blt cap unkU<;>simp only [hlt,cond_true,cond_false] at hv
   ·have hge:unkU≤cap:=by
     rcases Nat.lt_or_ge cap unkU with g | g
     ·have:Nat.blt cap unkU=true:=by unfold Nat.blt; exact Nat.ble_eq_true_of_le g
      rw [this] at hlt; cases hlt
     ·exact g
    rcases hcap with ⟨g,_⟩ | ⟨_,hcc⟩
    ·omega
    cases hlc:Nat.blt l c<;>simp only [hlc,cond_true,cond_false] at hv
    ·cases hl0:Nat.beq l 0<;>simp only [hl0,cond_true,cond_false,reduceCtorEq,Option.some.injEq] at hv
     ·subst hv
      have hll:¬ l<c:=fun q=>by rw [show Nat.blt l c=true from Nat.ble_eq_true_of_le q] at hlc; cases hlc
      have hul:u-l=0:=by omega
      refine opOk_same hr (hrun (by rw [e0,hmn]; exact hr2)) (.inr ⟨by simp,rfl,Nat.le_refl _,?_⟩)
      rw [hul]
      by_cases q:c'=l
      ·exact ⟨_,_,by rw [if_pos q]⟩
      ·exact ⟨_,_,by rw [if_neg q]; rfl⟩
     have e1:l=0:=Nat.eq_of_beq_eq_true hl0
     subst hv; subst e1
     refine opOk_same hr (hrun (by rw [e0,hmn]; exact hr2)) ?_
     refine .inl ⟨hs,xx,c',hxx,.inr ⟨hge,hcc⟩,?_⟩
     simp [add_addr]
    ·have hll:l<c:=by unfold Nat.blt at hlc; exact Nat.le_of_ble_eq_true hlc
     cases hv
     refine opOk_same hr (hrun (by rw [e0,hmn]; exact hr2)) ?_
     refine .inl ⟨rfl,xx,c'-l,hxx,.inr ⟨by omega,?_⟩,?_⟩
     ·rw [hcc]
      have e3:cap+l-unkU=(cap-unkU)+l:=by omega
      rw [e3,Nat.sub_add_eq]
     ·rw [if_neg (by omega)]
      simp [add_addr,Nat.add_assoc]
   ·have hlt':cap<unkU:=by unfold Nat.blt at hlt; exact Nat.le_of_ble_eq_true hlt
    rcases hcap with ⟨_,hcc⟩ | ⟨g,_⟩
    ·subst hcc
     cases hv
     refine opOk_same hr (hrun (by rw [e0,hmn]; exact hr2)) ?_
     cases hcl':Nat.beq c' l
     ·have hne:c'≠l:=fun e=>by rw [e] at hcl'; simp at hcl'
      refine .inl ⟨rfl,xx,c'-l,hxx,.inl ⟨by omega,rfl⟩,?_⟩
      rw [if_neg hne]
      simp [add_addr,Nat.add_assoc]
     ·have he:c'=l:=Nat.eq_of_beq_eq_true hcl'
      refine .inl ⟨hs,xx,c'-l,hxx,.inl ⟨by omega,rfl⟩,?_⟩
      rw [if_pos he]; rfl
    ·omega
  ·cases hv
 ·rename_i b m
  have hbs:b.spot=none:=by
   have hv:=hv
   split at hv
   ·rename_i l u y c l1 l2 l3 l4
    cases hq:(Nat.ble l u&&Nat.ble u y&&Nat.ble y c&&Nat.blt cap unkU&&b.spot.isNone)<;>simp only [hq,cond_true,cond_false,reduceCtorEq] at hv
    simp only [Bool.and_eq_true] at hq
    simpa using hq.2
   ·cases hv
  obtain ⟨hs,xx,c',hxx,hcap,e0⟩:b.spot=none∧∃ xx c',θ b.block=some xx∧capR xx.2.2 cap c'∧a.eval x = .slice (some ⟨xx.1,xx.2.1+b.off,none⟩) len c':=SlR.here hwx hbs
  split at hv
  ·rename_i l u y c l1 l2 l3 l4
   have n1:=opt_nat (fun y hy v=>ht y (by simp [ho,Op.operands,hy]) v) hlo l1
   have hl2:hiv≠none∧natOf 0 hiv=some u:=by
    cases hiv with
    | none=>cases l2
    | some hvv=>exact ⟨by simp,l2⟩
   have n2:=opt_nat (fun y hy v=>ht y (by simp [ho,Op.operands,hy]) v) hhi hl2.2
   have n3:=opt_nat (fun y hy v=>ht y (by simp [ho,Op.operands,hy]) v) hmx l3
   have hcl:=capLow_le hr hxx l4 hcap
   cases hq:(Nat.ble l u&&Nat.ble u y&&Nat.ble y c&&Nat.blt cap unkU&&b.spot.isNone)<;>simp only [hq,cond_true,cond_false,reduceCtorEq] at hv
   simp only [Bool.and_eq_true] at hq
   have q1:=Nat.le_of_ble_eq_true hq.1.1.1.1
   have q2:=Nat.le_of_ble_eq_true hq.1.1.1.2
   have q3:=Nat.le_of_ble_eq_true hq.1.1.2
   have hlt':cap<unkU:=by have:=hq.1.2; unfold Nat.blt at this; exact Nat.le_of_ble_eq_true this
   rcases hcap with ⟨_,hcc⟩ | ⟨g,_⟩
   ·subst hcc
    rcases n3 with ⟨e3,_⟩ | ⟨k3,j3,e3,p3,r3⟩
    ·exfalso
     cases mx with
     | none=>simp [optv] at hmx
     | some mm=>simp at e3
    ·rcases n2 with ⟨e2,r2⟩ | ⟨k2,j2,e2,p2,r2⟩
     ·exfalso
      cases hi with
      | none=>simp only [optv,Option.some.injEq] at hhi; exact hl2.1 hhi.symm
      | some mm=>simp at e2
     ·subst r3; subst r2
      have hr3:=run_slice3 (P:=E.P) (w:=w) g2 m1 (sa:=some ⟨xx.1,xx.2.1+b.off,none⟩) (len:=len) n1 p2 p3 q1 q2 (Nat.le_trans q3 hcl) (k2:=k2) (k3:=k3)
      cases hv
      refine opOk_same hr (hrun (by rw [e0,e2,e3]; exact hr3)) ?_
      cases hcl':Nat.beq j3.toNat l
      ·have hne:j3.toNat≠l:=fun e=>by rw [e] at hcl'; simp at hcl'
       refine .inl ⟨rfl,xx,j3.toNat-l,hxx,.inl ⟨by omega,rfl⟩,?_⟩
       rw [if_neg hne]
       simp [add_addr,Nat.add_assoc]
      ·have he:j3.toNat=l:=Nat.eq_of_beq_eq_true hcl'
       refine .inl ⟨hs,xx,j3.toNat-l,hxx,.inl ⟨by omega,rfl⟩,?_⟩
       rw [if_pos he]; rfl
   ·omega
  ·cases hv
 ·cases hv
end Go.Ev
