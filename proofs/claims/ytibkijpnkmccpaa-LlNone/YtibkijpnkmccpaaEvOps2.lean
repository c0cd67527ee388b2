import Derived.Test.YtibkijpnkmccpaaEvDefs
import Derived.Laws.Append
import Derived.Laws.BytesString
set_option linter.unusedVariables false
set_option linter.unusedSimpArgs false
namespace Go.Ev
open Go.Deep Go.RowKit
def EnvT (E:Env):Prop:=∀ t ti,tget E.tt t=some ti->tiOf E.P t=some ti
theorem plain_all2 {θ:Th}:∀ {l:List Value},allPlain l=true->all2 (S θ) l l
 | [],_=>trivial
 | v :: l,h=>by
   simp only [allPlain,Bool.and_eq_true] at h
   exact ⟨S_plain h.1,plain_all2 h.2⟩
theorem kind_slice {d:TypeDesc} (h:(kindOf d).1=1):d = .slice (kindOf d).2.1:=by
 cases d<;>simp [kindOf] at h ⊢
 case int k=>cases k<;>simp [kindOf] at h
theorem kind_array {d:TypeDesc} (h:(kindOf d).1=2):d = .array (kindOf d).2.2 (kindOf d).2.1:=by
 cases d<;>simp [kindOf] at h ⊢
 case int k=>cases k<;>simp [kindOf] at h
theorem kind_struct {d:TypeDesc} (h:(kindOf d).1=3):∃ fs,d = .struct fs:=by
 cases d<;>simp [kindOf] at h ⊢
 case int k=>cases k<;>simp [kindOf] at h
theorem kind_string {d:TypeDesc} (h:(kindOf d).1=4):d = .string:=by
 cases d<;>simp [kindOf] at h ⊢
 case int k=>cases k<;>simp [kindOf] at h
theorem kind_int {d:TypeDesc} (h:(kindOf d).1=5):∃ k,d = .int k:=by
 cases d<;>simp [kindOf] at h ⊢
theorem kind_pointer {d:TypeDesc} (h:(kindOf d).1=7):d = .pointer (kindOf d).2.1:=by
 cases d<;>simp [kindOf] at h ⊢
 case int k=>cases k<;>simp [kindOf] at h
theorem kind_func {d:TypeDesc} (h:(kindOf d).1=8):∃ a b c,d = .func a b c:=by
 cases d<;>simp [kindOf] at h ⊢
 case int k=>cases k<;>simp [kindOf] at h
theorem run_typeInfo {P:Program} {t:TypeId} {i:TypeInfo} (h:P.info? t=some i) (w:World):(typeInfo t).run P w = .ok i w:=by simp [typeInfo,h]
theorem run_sizeOf {P:Program} {t:TypeId} {i:TypeInfo} (h:P.info? t=some i) (w:World):(sizeOf t).run P w = .ok i.size w:=by simp [sizeOf,run_typeInfo h]
theorem run_zeroValue {P:Program} {t:TypeId} {i:TypeInfo} {z:Value} (h:P.info? t=some i) (hz:i.zero=some z) (w:World):(zeroValue t).run P w = .ok z w:=by simp [zeroValue,run_typeInfo h,hz]
theorem run_isAgg {P:Program} {t:TypeId} {d:TypeDesc} (h:P.underlying t=some d) (w:World):(isAgg t).run P w = .ok (aggB d) w:=by
 cases d<;>simp [isAgg,run_underlying h,aggB]
theorem mapM_fields {P:Program}:∀ (l:List Field) (pl:List (Nat × Nat)),l.mapM (fun f=>(P.info? f.type).map fun i=>(f.offset,i.size))=some pl->∀ (k:Nat) (p:Nat × Nat),pl[k]? = some p->∃ (fd:Field) (i:TypeInfo),l[k]? = some fd/\P.info? fd.type=some i/\p=(fd.offset,i.size):=by
 intro l
 induction l with
 | nil=>intro pl hm k p hp; simp at hm; subst hm; simp at hp
 | cons fd l ih =>
   intro pl hm k p hp
   simp only [List.mapM_cons,Option.bind_eq_bind,Option.pure_def] at hm
   cases hi:P.info? fd.type with
   | none=>simp [hi] at hm
   | some i =>
     cases hr:l.mapM (fun f=>(P.info? f.type).map fun i=>(f.offset,i.size)) with
     | none=>simp [hi,hr] at hm
     | some rest =>
       simp [hi,hr] at hm
       subst hm
       cases k with
       | zero=>simp at hp; exact ⟨fd,i,by simp,hi,hp.symm⟩
       | succ k=>simp at hp; obtain ⟨a1,a2,a3,a4,a5⟩:=ih rest hr k p hp; exact ⟨a1,a2,by simpa using a3,a4,a5⟩
theorem op_move [LG] {E:Env} (hE:EnvT E) {o:Oper} {nm:Nat} {θ:Th} {h:Hp} {w:World} {a:Act} {T:Tm} {v:Value} (hr:HR θ h w) (ht:TO θ T a o) {x:Operand} (ho:o.op = .move x) (hv:opv T x=some v):OpOk E.P o nm θ h w a v h :=
 opOk_same hr (u:=a.eval x) (by simp [execOp,ho]) (ht _ (by simp [ho,Op.operands]) _ hv)
theorem op_assign [LG] {E:Env} (hE:EnvT E) {o:Oper} {nm:Nat} {θ:Th} {h:Hp} {w:World} {a:Act} {T:Tm} {v:Value} (hr:HR θ h w) (ht:TO θ T a o) {x:Operand} (ho:o.op = .assign x) (hv:opv T x=some v):OpOk E.P o nm θ h w a v h :=
 opOk_same hr (u:=a.eval x) (by simp [execOp,ho]) (ht _ (by simp [ho,Op.operands]) _ hv)
theorem op_pick [LG] {E:Env} (hE:EnvT E) {o:Oper} {nm:Nat} {θ:Th} {h:Hp} {w:World} {a:Act} {T:Tm} {v:Value} (hr:HR θ h w) (ht:TO θ T a o) {c x y:Operand} {b:Bool} (ho:o.op = .pick c x y) (hc:opv T c=some (.bool b)) (hv:opv T (if b then x else y)=some v):OpOk E.P o nm θ h w a v h:=by
 have h1:a.eval c = .bool b:=ht _ (by simp [ho,Op.operands]) _ hc
 refine opOk_same hr (u:=a.eval (if b then x else y)) ?_ (ht _ (by cases b<;>simp [ho,Op.operands]) _ hv)
 cases b<;>simp [execOp,ho,h1,asBool]
theorem op_plain [LG] {E:Env} (hE:EnvT E) {o:Oper} {nm:Nat} {θ:Th} {h h':Hp} {w:World} {a:Act} {T:Tm} {v:Value} (hr:HR θ h w) (ht:TO θ T a o) (hs:∀ cs b,o.op≠.select cs b) (hx:xplain E o (opv T) h=some (v,h')):OpOk E.P o nm θ h w a v h':=by
 unfold xplain at hx
 split at hx
 .cases hx
 .rename_i vs hvs
  cases hp:allPlainA vs<;>simp [hp] at hx
  have h1:=opvs_O (fun y hy=>ht y hy) hvs
  have h2:=allPlainA_eq hp h1
  have h3:=opvs_rho hvs
  have hcong:execOp a.eval o=execOp (rho (opv T)) o:=by
   refine execOp_congr o hs fun x hx=>?_
   have h4:o.op.operands.toList.map a.eval=o.op.operands.toList.map (rho (opv T)):=by rw [h2,h3]
   exact List.map_inj_left.1 h4 x (by simpa using hx)
  split at hx
  .rename_i u hu
   cases hq:isPlain u<;>simp [hq] at hx
   obtain ⟨rfl,rfl⟩:=hx
   exact opOk_same hr (u:=u) (by rw [hcong]; exact srun_sound hu w) (W_of_S (S_plain hq))
  .cases hx
theorem op_alloc [LG] {E:Env} (hE:EnvT E) {o:Oper} {nm:Nat} {θ:Th} {h:Hp} {w:World} {a:Act} {T:Tm} (hr:HR θ h w) (ht:TO θ T a o) {t:TypeId} {ti:TI} (hnm:θ nm=none) (ho:o.op = .alloc t) (hti:tget E.tt t=some ti):OpOk E.P o nm θ h w a (newPtr nm) (halloc h nm (mkEnt ti.zero 0)):=by
 obtain ⟨i,d,z,fl,h1,h2,h3,h4,h5,rfl⟩:=ti_spec (hE _ _ hti)
 obtain ⟨g1,g2⟩:=alloc_sound hr hnm [] (plain_all2 h5) t 0 0 (fun e=>absurd rfl e)
 simp only [List.append_nil] at g1 g2
 refine ⟨_,_,.pointer (some ⟨w.heap.size,0,none⟩),_,?_,.inl rfl,g2,g1,?_⟩
 .simp [execOp,ho,Instr.alloc,run_zeroValue h1 h3,newVar,newRow]
 .exact ⟨rfl,(w.heap.size,0,0),by simp,rfl⟩
theorem op_box [LG] {E:Env} (hE:EnvT E) {o:Oper} {nm:Nat} {θ:Th} {h:Hp} {w:World} {a:Act} {T:Tm} (hr:HR θ h w) (ht:TO θ T a o) {t:TypeId} {x:Operand} {u:Value} {cs:List Value} (hnm:θ nm=none) (ho:o.op = .box t x) (hx:opv T x=some u) (hc:cellsA u=some cs):OpOk E.P o nm θ h w a (newPtr nm) (halloc h nm (mkEnt cs 0)):=by
 obtain ⟨ds,h1,h2⟩:=W_cells hc (ht _ (by simp [ho,Op.operands]) _ hx)
 obtain ⟨g1,g2⟩:=alloc_sound hr hnm [] h2 t 0 0 (fun e=>absurd rfl e)
 simp only [List.append_nil] at g1 g2
 refine ⟨_,_,.pointer (some ⟨w.heap.size,0,none⟩),_,?_,.inl rfl,g2,g1,?_⟩
 .simp [execOp,ho,Instr.box,newVar,newRow,h1]
 .exact ⟨rfl,(w.heap.size,0,0),by simp,rfl⟩
theorem op_load [LG] {E:Env} (hE:EnvT E) {o:Oper} {nm:Nat} {θ:Th} {h h':Hp} {w:World} {a:Act} {T:Tm} {v:Value} (hr:HR θ h w) (ht:TO θ T a o) {t:TypeId} {x:Operand} {ad:Addr} {ti:TI} (ho:o.op = .load t x) (hx:opv T x=some (.pointer (some ad))) (hti:tget E.tt t=some ti)
 (hv:(bif ti.agg then ob (hload h ad ti.size) fun cs=>some (Value.agg cs.toArray,h) else match hload h ad 1 with | some [v]=>some (v,h) | _=>none)=some (v,h')):OpOk E.P o nm θ h w a v h':=by
 obtain ⟨i,d,z,fl,h1,h2,h3,h4,h5,rfl⟩:=ti_spec (hE _ _ hti)
 obtain ⟨hs,x',hx',hev⟩:ad.spot=none/\∃ x',θ ad.block=some x'/\a.eval x = .pointer (some ⟨x'.1,x'.2.1+ad.off,none⟩):=ht _ (by simp [ho,Op.operands]) _ hx
 simp only at hv
 cases hg:aggB d
 .simp only [hg,cond_false] at hv
  split at hv
  .rename_i u hl
   cases hv
   obtain ⟨ds,k1,k2,k3,k4⟩:=load_sound (P:=E.P) hr hl hx'
   match ds,k4 with
   | [y],_ =>
     refine opOk_same hr (u:=y) ?_ (W_of_S k2.1)
     have:=k3 0 y (by simp)
     simp only [Nat.add_zero] at this
     simp [execOp,ho,Instr.loadAt,hev,Instr.sureAddr,loadVar,run_isAgg h2,hg,this]
  .cases hv
 .simp only [hg,cond_true] at hv
  obtain ⟨cs,hl,hc⟩:=ob_some hv
  cases hc
  obtain ⟨ds,k1,k2,k3,k4⟩:=load_sound (P:=E.P) hr hl hx'
  refine opOk_same hr (u:=.agg ds.toArray) ?_ ⟨ds,rfl,by simpa using k2⟩
  simp [execOp,ho,Instr.loadAt,hev,Instr.sureAddr,loadVar,run_isAgg h2,hg,run_sizeOf h1,k1]
theorem op_store [LG] {E:Env} (hE:EnvT E) {o:Oper} {nm:Nat} {θ:Th} {h h':Hp} {w:World} {a:Act} {T:Tm} (hr:HR θ h w) (ht:TO θ T a o) {t:TypeId} {x y:Operand} {ad:Addr} {u:Value} {cs:List Value} {ti:TI} (ho:o.op = .store t x y) (hx:opv T x=some (.pointer (some ad))) (hy:opv T y=some u) (hti:tget E.tt t=some ti)
 (hc:cellsA u=some cs) (hl:cs.length=ti.size) (hst:hstore h ad cs=some h'):OpOk E.P o nm θ h w a undefV h':=by
 obtain ⟨i,d,z,fl,h1,h2,h3,h4,h5,rfl⟩:=ti_spec (hE _ _ hti)
 obtain ⟨hs,x',hx',hev⟩:ad.spot=none/\∃ x',θ ad.block=some x'/\a.eval x = .pointer (some ⟨x'.1,x'.2.1+ad.off,none⟩):=ht _ (by simp [ho,Op.operands]) _ hx
 obtain ⟨ds,k1,k2⟩:=W_cells hc (ht _ (by simp [ho,Op.operands]) _ hy)
 obtain ⟨g1,g2,g3⟩:=store_sound (P:=E.P) hr hst hx' k2
 refine ⟨θ,_,undef,.skip,?_,.inr ⟨rfl,rfl⟩,g3 nm,g2,⟨[],rfl,trivial⟩⟩
 have hlen:ds.length=i.size:=by rw [<- all2_len k2]; exact hl
 simp [execOp,ho,Instr.storeAt,hev,Instr.sureAddr,storeVar,run_sizeOf h1,k1,hlen,g1]
theorem op_nilCheck_ptr [LG] {E:Env} (hE:EnvT E) {o:Oper} {nm:Nat} {θ:Th} {h:Hp} {w:World} {a:Act} {T:Tm} (hr:HR θ h w) (ht:TO θ T a o) {x:Operand} {ad:Addr} (ho:o.op = .nilCheck x) (hx:opv T x=some (.pointer (some ad))):OpOk E.P o nm θ h w a (.pointer (some ad)) h:=by
 have hw:=ht _ (by simp [ho,Op.operands]) _ hx
 obtain ⟨hs,x',hx',hev⟩:ad.spot=none/\∃ x',θ ad.block=some x'/\a.eval x = .pointer (some ⟨x'.1,x'.2.1+ad.off,none⟩):=ht _ (by simp [ho,Op.operands]) _ hx
 exact opOk_same hr (u:=a.eval x) (by simp [execOp,ho,hev]) hw
theorem op_nilCheck_func [LG] {E:Env} (hE:EnvT E) {o:Oper} {nm:Nat} {θ:Th} {h:Hp} {w:World} {a:Act} {T:Tm} (hr:HR θ h w) (ht:TO θ T a o) {x:Operand} {g:FuncId} {f c:Array Value} (ho:o.op = .nilCheck x) (hx:opv T x=some (.func (.func g) f c)):OpOk E.P o nm θ h w a (.func (.func g) f c) h:=by
 have hw:=ht _ (by simp [ho,Op.operands]) _ hx
 obtain ⟨a1,b1,hev,_,_⟩:∃ a' b':List Value,a.eval x = .func (.func g) a'.toArray b'.toArray/\all2 (V0 θ) f.toList a'/\all2 (V0 θ) c.toList b':=ht _ (by simp [ho,Op.operands]) _ hx
 exact opOk_same hr (u:=a.eval x) (by simp [execOp,ho,hev]) hw
theorem op_extract [LG] {E:Env} (hE:EnvT E) {o:Oper} {nm:Nat} {θ:Th} {h:Hp} {w:World} {a:Act} {T:Tm} {v:Value} (hr:HR θ h w) (ht:TO θ T a o) {x:Operand} {i:Nat} {vs:Array Value} (ho:o.op = .extract x i) (hx:opv T x=some (.tuple vs)) (hv:vs.toList[i]? = some v):OpOk E.P o nm θ h w a v h:=by
 obtain ⟨us,h1,h2⟩:∃ us:List Value,a.eval x = .tuple us.toArray/\all2 (V θ) vs.toList us:=ht _ (by simp [ho,Op.operands]) _ hx
 obtain ⟨u,h3,h4⟩:=all2_get h2 i v hv
 refine opOk_same hr (u:=u) ?_ (W_of_V h4)
 simp [execOp,ho,h1,Instr.extract,h3]
theorem op_field [LG] {E:Env} (hE:EnvT E) {o:Oper} {nm:Nat} {θ:Th} {h:Hp} {w:World} {a:Act} {T:Tm} {v:Value} (hr:HR θ h w) (ht:TO θ T a o) {t:TypeId} {x:Operand} {f:Nat} {cs:Array Value} (ho:o.op = .field t x f) (hx:opv T x=some (.agg cs)) (hv:fldA E t cs.toList f=some v):OpOk E.P o nm θ h w a v h:=by
 obtain ⟨ds,h1,h2⟩:∃ ds:List Value,a.eval x = .agg ds.toArray/\all2 (S θ) cs.toList ds:=ht _ (by simp [ho,Op.operands]) _ hx
 unfold fldA at hv
 split at hv
 .rename_i fs hfs
  split at hv
  .rename_i fl hfl
   obtain ⟨ti,k1,k2⟩:=ob_some hv
   obtain ⟨i,d,z,fl',g1,g2,g3,g4,g5,rfl⟩:=ti_spec (hE _ _ k1)
   simp only [partA] at k2
   cases hg:aggB d
   .simp only [hg,cond_false] at k2
    obtain ⟨u,q1,q2⟩:=all2_get h2 _ _ k2
    refine opOk_same hr (u:=u) ?_ (W_of_S q2)
    simp [execOp,ho,Instr.field,run_underlying hfs,hfl,h1,asAgg,part,run_isAgg g2,hg,q1]
   .simp only [hg,cond_true,Option.some.injEq] at k2
    subst k2
    refine opOk_same hr (u:=.agg ((ds.drop fl.offset).take i.size).toArray) ?_ ⟨_,rfl,by simpa using all2_take i.size (all2_drop fl.offset h2)⟩
    have e:ds.toArray.extract fl.offset (fl.offset+i.size)=((ds.drop fl.offset).take i.size).toArray:=by
     apply Array.toList_inj.1
     simp [List.extract_eq_take_drop]
    simp [execOp,ho,Instr.field,run_underlying hfs,hfl,h1,asAgg,part,run_isAgg g2,hg,run_sizeOf g1,e,-List.extract_toArray]
  .cases hv
 .cases hv
theorem op_fieldAddr [LG] {E:Env} (hE:EnvT E) {o:Oper} {nm:Nat} {θ:Th} {h:Hp} {w:World} {a:Act} {T:Tm} (hr:HR θ h w) (ht:TO θ T a o) {s:TypeId} {x:Operand} {f:Nat} {ad:Addr} {ti:TI} {fl:Nat × Nat} (ho:o.op = .fieldAddr s x f) (hx:opv T x=some (.pointer (some ad))) (hti:tget E.tt s=some ti) (hf:ti.flds[f]? = some fl)
 (hk:ti.kind=3) (hz:fl.2≠0):OpOk E.P o nm θ h w a (.pointer (some ⟨ad.block,ad.off+fl.1,none⟩)) h:=by
 obtain ⟨i,d,z,fs,h1,h2,h3,h4,h5,rfl⟩:=ti_spec (hE _ _ hti)
 obtain ⟨hs,x',hx',hev⟩:ad.spot=none/\∃ x',θ ad.block=some x'/\a.eval x = .pointer (some ⟨x'.1,x'.2.1+ad.off,none⟩):=ht _ (by simp [ho,Op.operands]) _ hx
 obtain ⟨fields,rfl⟩:=kind_struct hk
 simp only [fldsOf] at h4
 obtain ⟨fd,i',e1,e2,rfl⟩:=mapM_fields _ _ h4 f fl hf
 have e1':fields[f]? = some fd:=by simpa using e1
 refine opOk_same hr (u:=.pointer (some ⟨x'.1,x'.2.1+(ad.off+fd.offset),none⟩)) ?_ ⟨rfl,x',hx',rfl⟩
 simp only at hz
 simp [execOp,ho,Instr.fieldAt,run_underlying h2,e1',hev,Instr.sureAddr,fieldPlace,run_sizeOf e2,hz,add_addr,Nat.add_assoc]
theorem op_indexAddr_slice [LG] {E:Env} (hE:EnvT E) {o:Oper} {nm:Nat} {θ:Th} {h:Hp} {w:World} {a:Act} {T:Tm} (hr:HR θ h w) (ht:TO θ T a o) {t:TypeId} {x ix:Operand} {ad:Addr} {len cap:Nat} {k:IntKind} {i:Int} {ti ei:TI} (ho:o.op = .indexAddr t x ix) (hx:opv T x=some (.slice (some ad) len cap)) (hi:opv T ix=some (.int k i))
 (hti:tget E.tt t=some ti) (hei:tget E.tt ti.elem=some ei) (hk:ti.kind=1) (h0:0<=i) (h1:i<len):OpOk E.P o nm θ h w a (.pointer (some ⟨ad.block,ad.off+i.toNat*ei.size,none⟩)) h:=by
 obtain ⟨i1,d,z,fs,k1,k2,k3,k4,k5,rfl⟩:=ti_spec (hE _ _ hti)
 obtain ⟨i2,d2,z2,fs2,m1,m2,m3,m4,m5,rfl⟩:=ti_spec (hE _ _ hei)
 simp only at hk hei m1 m2
 have hd:=kind_slice hk
 rw [hd] at k2
 have hix:a.eval ix = .int k i:=ht _ (by simp [ho,Op.operands]) _ hi
 have hw0:SlR θ ad len cap (a.eval x):=ht _ (by simp [ho,Op.operands]) _ hx
 obtain ⟨hs,x',c',hx',hc,hev⟩:ad.spot=none/\∃ x' c',θ ad.block=some x'/\capR x'.2.2 cap c'/\a.eval x = .slice (some ⟨x'.1,x'.2.1+ad.off,none⟩) len c':=hw0.resolve_right fun q=>by have:=q.2.1; omega
 refine opOk_same hr (u:=.pointer (some ⟨x'.1,x'.2.1+(ad.off+i.toNat*i2.size),none⟩)) ?_ ⟨rfl,x',hx',rfl⟩
 simp [execOp,ho,Instr.indexAt,hix,asIntOf,run_underlying k2,hev,h0,h1,run_sizeOf m1,add_addr,Nat.add_assoc]
theorem op_indexAddr_array [LG] {E:Env} (hE:EnvT E) {o:Oper} {nm:Nat} {θ:Th} {h:Hp} {w:World} {a:Act} {T:Tm} (hr:HR θ h w) (ht:TO θ T a o) {t:TypeId} {x ix:Operand} {ad:Addr} {k:IntKind} {i:Int} {ti ei:TI} (ho:o.op = .indexAddr t x ix) (hx:opv T x=some (.pointer (some ad))) (hi:opv T ix=some (.int k i))
 (hti:tget E.tt t=some ti) (hei:tget E.tt ti.elem=some ei) (hk:ti.kind=2) (h0:0<=i) (h1:i<ti.alen):OpOk E.P o nm θ h w a (.pointer (some ⟨ad.block,ad.off+i.toNat*ei.size,none⟩)) h:=by
 obtain ⟨i1,d,z,fs,k1,k2,k3,k4,k5,rfl⟩:=ti_spec (hE _ _ hti)
 obtain ⟨i2,d2,z2,fs2,m1,m2,m3,m4,m5,rfl⟩:=ti_spec (hE _ _ hei)
 simp only at hk hei m1 m2 h1
 have hd:=kind_array hk
 rw [hd] at k2
 have hix:a.eval ix = .int k i:=ht _ (by simp [ho,Op.operands]) _ hi
 obtain ⟨hs,x',hx',hev⟩:ad.spot=none/\∃ x',θ ad.block=some x'/\a.eval x = .pointer (some ⟨x'.1,x'.2.1+ad.off,none⟩):=ht _ (by simp [ho,Op.operands]) _ hx
 refine opOk_same hr (u:=.pointer (some ⟨x'.1,x'.2.1+(ad.off+i.toNat*i2.size),none⟩)) ?_ ⟨rfl,x',hx',rfl⟩
 simp [execOp,ho,Instr.indexAt,hix,asIntOf,run_underlying k2,hev,h0,h1,run_sizeOf m1,add_addr,Nat.add_assoc,Instr.sureAddr]
theorem lput_nil {α:Type} (cs:List α) (n:Nat):lput cs n []=cs:=by cases cs<;>simp [lput]
theorem lput_cons {α:Type}:∀ (cs:List α) (n:Nat) (v:α) (vs:List α),lput cs n (v :: vs)=lput (cs.set n v) (n+1) vs
 | [],n,v,vs=>by cases vs<;>simp [lput]
 | c :: cs,0,v,vs=>by
   cases vs with
   | nil=>simp [lput,lput_nil]
   | cons u us=>simp [lput]
 | c :: cs,n+1,v,vs=>by
   simp only [lput,List.set_cons_succ]
   rw [lput_cons cs n v vs]
   cases vs with
   | nil=>simp [lput_nil]
   | cons u us=>simp [lput]
theorem fold_put:∀ (vs:List Value) (off k:Nat) (cells:List Value),(vs.zipIdx k).foldl (fun (cs:Array Value) (p:Value × Nat)=>cs.setIfInBounds (off+p.2) p.1) cells.toArray=(lput cells (off+k) vs).toArray
 | [],off,k,cells=>by simp [lput_nil]
 | v :: vs,off,k,cells=>by
   rw [lput_cons,List.zipIdx_cons,List.foldl_cons]
   simp only
   have:cells.toArray.setIfInBounds (off+k) v=(cells.set (off+k) v).toArray:=by simp
   rw [this,fold_put vs off (k+1) _,Nat.add_assoc]
theorem all2_lput {α β:Type} {p:α->β->Prop}:∀ {cs:List α} {ds:List β} {n:Nat} {vs:List α} {us:List β},all2 p cs ds->all2 p vs us->all2 p (lput cs n vs) (lput ds n us)
 | cs,ds,n,[],[],h,_=>by rw [lput_nil,lput_nil]; exact h
 | [],[],n,_ :: _,_ :: _,_,_=>by simp [lput,all2]
 | _ :: _,_ :: _,0,_ :: _,_ :: _,h,g=>⟨g.1,all2_lput h.2 g.2⟩
 | _ :: _,_ :: _,n+1,_ :: _,_ :: _,h,g=>⟨h.1,all2_lput (vs:=_ :: _) (us:=_ :: _) h.2 g⟩
 | [],_ :: _,_,_,_,h,_=>h.elim
 | _ :: _,[],_,_,_,h,_=>h.elim
 | _,_,_,[],_ :: _,_,h=>h.elim
 | _,_,_,_ :: _,[],_,h=>h.elim
theorem fill_sound {θ:Th} {T:Tm} {a:Act} {pl:Nat->Option (Nat × Nat)}:∀ {parts:List (Nat × Operand)} {ps:List (Nat × Nat × Value)} {cs cs' ds:List Value},(∀ p∈parts,∀ v,opv T p.2=some v->W θ v (a.eval p.2))->
 partsA (opv T) pl parts=some ps->fillA cs ps=some cs'->all2 (S θ) cs ds->∃ ds':List Value,Instr.fill pl ds.toArray (parts.map fun (i,x)=>(i,a.eval x))=some ds'.toArray/\all2 (S θ) cs' ds'
 | [],ps,cs,cs',ds,ht,h1,h2,h3=>by
   cases h1
   cases h2
   exact ⟨ds,by simp [Instr.fill],h3⟩
 | (i,x) :: l,ps,cs,cs',ds,ht,h1,h2,h3=>by
  simp only [partsA] at h1
  split at h1
  .rename_i off sz u r hp hu hrest
   cases h1
   simp only [fillA] at h2
   split at h2
   .cases h2
   .rename_i vs hvs
    cases hb:(Nat.beq vs.length sz&&Nat.ble (off+vs.length) cs.length)<;>simp only [hb,cond_true,cond_false] at h2
    .cases h2
    .simp only [Bool.and_eq_true] at hb
     have hb1:=Nat.eq_of_beq_eq_true hb.1
     have hb2:=Nat.le_of_ble_eq_true hb.2
     obtain ⟨us,k1,k2⟩:=W_cells hvs (ht (i,x) (by simp) u hu)
     have l1:=all2_len k2
     have l2:=all2_len h3
     obtain ⟨ds',g1,g2⟩:=fill_sound (fun p hp=>ht p (by simp [hp])) hrest h2 (all2_lput (n:=off) h3 k2)
     refine ⟨ds',?_,g2⟩
     simp only [List.map_cons,Instr.fill,hp,k1]
     rw [if_neg (by simp; omega)]
     have:=fold_put us off 0 ds
     simp only [Nat.add_zero] at this
     rw [<- g1,<- this]
     simp
  .cases h1
theorem lrep_length {α:Type} (z:List α):∀ n,(lrep z n).length=n*z.length
 | 0=>by simp [lrep]
 | n+1=>by simp [lrep,lrep_length z n,Nat.add_mul,Nat.add_comm]
theorem lrep_get {α:Type} (z:List α) (hz:0<z.length):∀ (n i:Nat),i<n*z.length->(lrep z n)[i]? = z[i%z.length]?
 | 0,i,h=>by simp at h
 | n+1,i,h=>by
   simp only [lrep]
   by_cases hi:i<z.length
   .rw [List.getElem?_append_left hi,Nat.mod_eq_of_lt hi]
   .have hm:=Nat.mod_eq_sub_mod (a:=i) (b:=z.length) (by omega)
    rw [List.getElem?_append_right (by omega),lrep_get z hz n (i-z.length) (by rw [Nat.succ_mul] at h; omega),hm]
theorem range_zero (z:List Value) (n:Nat):(Array.range (n*z.length)).map (fun i=>z.toArray[i%z.toArray.size]!)=(lrep z n).toArray:=by
 apply Array.ext'
 apply List.ext_getElem?
 intro i
 by_cases h:i<n*z.length
 .have hz:0<z.length:=by
   rcases Nat.eq_zero_or_pos z.length with e | e
   .rw [e] at h; simp at h
   .exact e
  have hm:i%z.length<z.length:=Nat.mod_lt _ hz
  simp [h,hm,lrep_get z hz n i h]
 .have h1:(lrep z n).length<=i:=by rw [lrep_length]; omega
  simp [List.getElem?_eq_none h1,h]
theorem plain_lrep {z:List Value} (h:allPlain z=true):∀ n,allPlain (lrep z n)=true
 | 0=>rfl
 | n+1=>by
   have app:∀ (x y:List Value),allPlain x=true->allPlain y=true->allPlain (x++y)=true:=by
    intro x
    induction x with
    | nil=>intro y _ hy; exact hy
    | cons u x ih =>
      intro y hx hy
      simp only [allPlain,Bool.and_eq_true] at hx
      simp [allPlain,hx.1,ih y hx.2 hy]
   exact app _ _ h (plain_lrep h n)
theorem op_build_struct [LG] {E:Env} (hE:EnvT E) {o:Oper} {nm:Nat} {θ:Th} {h:Hp} {w:World} {a:Act} {T:Tm} (hr:HR θ h w) (ht:TO θ T a o) {t:TypeId} {parts:Array (Nat × Operand)} {ti:TI} {ps:List (Nat × Nat × Value)} {cs:List Value}
 (ho:o.op = .build t parts) (hti:tget E.tt t=some ti) (hk:ti.kind=3) (hp:partsA (opv T) (fun i=>ti.flds[i]?) parts.toList=some ps) (hf:fillA ti.zero ps=some cs):OpOk E.P o nm θ h w a (.agg cs.toArray) h:=by
 obtain ⟨i,d,z,fl,h1,h2,h3,h4,h5,rfl⟩:=ti_spec (hE _ _ hti)
 obtain ⟨fields,rfl⟩:=kind_struct hk
 simp only [fldsOf] at h4
 obtain ⟨ds,g1,g2⟩:=fill_sound (fun p hp v=>ht p.2 (by simp only [ho,Op.operands]; simp; exact ⟨p.1,by simpa using hp⟩) v) hp hf (plain_all2 h5)
 refine opOk_same hr (u:=.agg ds.toArray) ?_ ⟨ds,rfl,by simpa using g2⟩
 have hmap:(parts.map fun (i,x)=>(i,a.eval x)).toList=parts.toList.map fun (i,x)=>(i,a.eval x):=by simp
 have hpl:=run_places (P:=E.P) w fields.toList fl h4
 simp only [execOp,ho,Instr.build,Sem.run_bind,run_zeroValue h1 h3,Result.andThen_ok,run_underlying h2,hmap]
 simp [Array.mapM_eq_mapM_toList,hpl]
 have hz:z.cells=z.cells.toList.toArray:=by simp
 rw [hz,g1]
 simp
theorem op_build_array [LG] {E:Env} (hE:EnvT E) {o:Oper} {nm:Nat} {θ:Th} {h:Hp} {w:World} {a:Act} {T:Tm} (hr:HR θ h w) (ht:TO θ T a o) {t:TypeId} {parts:Array (Nat × Operand)} {ti ei:TI} {ps:List (Nat × Nat × Value)} {cs:List Value}
 (ho:o.op = .build t parts) (hti:tget E.tt t=some ti) (hk:ti.kind=2) (hei:tget E.tt ti.elem=some ei) (hp:partsA (opv T) (fun i=>some (i*ei.size,ei.size)) parts.toList=some ps) (hf:fillA ti.zero ps=some cs):OpOk E.P o nm θ h w a (.agg cs.toArray) h:=by
 obtain ⟨i,d,z,fl,h1,h2,h3,h4,h5,rfl⟩:=ti_spec (hE _ _ hti)
 obtain ⟨i2,d2,z2,fs2,m1,m2,m3,m4,m5,rfl⟩:=ti_spec (hE _ _ hei)
 simp only at hk hei m1 m2 hp hf
 rw [kind_array hk] at h2
 obtain ⟨ds,g1,g2⟩:=fill_sound (fun p hp v=>ht p.2 (by simp only [ho,Op.operands]; simp; exact ⟨p.1,by simpa using hp⟩) v) hp hf (plain_all2 h5)
 refine opOk_same hr (u:=.agg ds.toArray) ?_ ⟨ds,rfl,by simpa using g2⟩
 have hmap:(parts.map fun (i,x)=>(i,a.eval x)).toList=parts.toList.map fun (i,x)=>(i,a.eval x):=by simp
 have hz:z.cells=z.cells.toList.toArray:=by simp
 simp only [execOp,ho,Instr.build,Sem.run_bind,run_zeroValue h1 h3,Result.andThen_ok,run_underlying h2,hmap,run_sizeOf m1]
 rw [hz,g1]
 simp
theorem op_buildSlice [LG] {E:Env} (hE:EnvT E) {o:Oper} {nm:Nat} {θ:Th} {h:Hp} {w:World} {a:Act} {T:Tm} (hr:HR θ h w) (ht:TO θ T a o) {t:TypeId} {len:Nat} {parts:Array (Nat × Operand)} {ti ei:TI} {ps:List (Nat × Nat × Value)} {cs:List Value}
 (hnm:θ nm=none) (ho:o.op = .buildSlice t len parts) (hti:tget E.tt t=some ti) (hk:ti.kind=1) (hei:tget E.tt ti.elem=some ei) (hb:len*ei.size<=16777216) (hb':len<=16777216) (hzl:ei.zero.length=ei.size)
 (hp:partsA (opv T) (fun i=>some (i*ei.size,ei.size)) parts.toList=some ps) (hf:fillA (lrep ei.zero len) ps=some cs) :
 OpOk E.P o nm θ h w a (.slice (some ⟨nm,0,none⟩) len len) (halloc h nm (mkEnt cs 0)):=by
 obtain ⟨i,d,z,fl,h1,h2,h3,h4,h5,rfl⟩:=ti_spec (hE _ _ hti)
 obtain ⟨i2,d2,z2,fs2,m1,m2,m3,m4,m5,rfl⟩:=ti_spec (hE _ _ hei)
 simp only at hk hei m1 m2 hp hf hb hzl
 rw [kind_slice hk] at h2
 obtain ⟨ds,g1,g2⟩:=fill_sound (fun p hp v=>ht p.2 (by simp only [ho,Op.operands]; simp; exact ⟨p.1,by simpa using hp⟩) v) hp hf (plain_all2 (plain_lrep m5 len))
 obtain ⟨e1,e2⟩:=alloc_sound hr hnm [] g2 (kindOf d).2.1 0 0 (fun e=>absurd rfl e)
 simp only [List.append_nil] at e1 e2
 refine ⟨_,_,.slice (some ⟨w.heap.size,0,none⟩) len len,_,?_,.inl rfl,e2,e1,?_⟩
 .have hmap:(parts.map fun (i,x)=>(i,a.eval x)).toList=parts.toList.map fun (i,x)=>(i,a.eval x):=by simp
  have hz:z2.cells=z2.cells.toList.toArray:=by simp
  by_cases e:len*i2.size=0
  .have hn:(lrep z2.cells.toList len)=[]:=by
    apply List.eq_nil_of_length_eq_zero
    rw [lrep_length,hzl,e]
   rw [hn] at g1
   simp only [execOp,ho,Instr.buildSlice,Sem.run_bind,Result.andThen_ok,run_underlying h2,hmap,run_sizeOf m1]
   rw [if_neg (by omega),if_pos e]
   simp only [Sem.run_bind,Sem.run_pure,Result.andThen_ok,e]
   have hz0:∀ f:Nat->Value,(Array.range 0).map f=([]:List Value).toArray:=fun f=>by simp
   rw [hz0,g1]
   simp [newRow]
  .have hrow:=range_zero z2.cells.toList len
   rw [hzl] at hrow
   simp only [Array.toArray_toList] at hrow
   simp only [execOp,ho,Instr.buildSlice,Sem.run_bind,Result.andThen_ok,run_underlying h2,hmap,run_sizeOf m1]
   rw [if_neg (by omega),if_neg e]
   simp only [Sem.run_bind,Sem.run_pure,Result.andThen_ok,run_zeroValue m1 m3,hrow,g1]
   simp [newRow]
 .exact .inl ⟨rfl,(w.heap.size,0,0),len,by simp,.inl ⟨by unfold unkU; omega,rfl⟩,rfl⟩
theorem wrap_small {n:Int} (h0:0<=n) (h1:n<=1000000):IntKind.i64.wrap n=n:=by
 have hm:n%18446744073709551616=n:=Int.emod_eq_of_lt h0 (by omega)
 simp [IntKind.wrap,IntKind.bits,IntKind.signed,hm]
 omega
theorem zeros_eq (z:Array Value) (n:Nat):Builtin.zeroCells z n=(lrep z.toList n).toArray:=by
 have:=range_zero z.toList n
 simpa [Builtin.zeroCells] using this
section
variable {P : Program} {e' : TypeId} {k' : IntKind} (w : World) (t u ty e : TypeId) (i : TypeInfo) (z : Value)
theorem app_room_slice (ht:P.underlying t=some (.slice e)) (hu:P.underlying u=some (.slice e')) (hi:P.info? e=some i) (hz:i.zero=some z)
 (b:Addr) (sLen sCap:Nat) (x:Option Addr) (n c:Nat) (news:List Value) (hnew:∀ s',(Builtin.firstCells i.size n (.slice x n c)).run P s' = .ok news.toArray s'\/s'≠w)
 (hroom:sLen+n<=sCap) (w':World) (hst:(storeCells (b.add (sLen*i.size)) news).run P w = .ok () w') :
 (Builtin.append_ #[t,u] ty #[.slice (some b) sLen sCap,.slice x n c]).run P w = .ok (.slice (some b) (sLen+n) sCap) w':=by
 have hf:=(hnew w).resolve_right (fun h=>h rfl)
 simp [Builtin.append_,run_underlying ht,run_underlying hu,sizeOf,typeInfo,hi,Builtin.lenOf,hroom,hf,hst]
theorem app_room_zeros (ht:P.underlying t=some (.slice e)) (hu:P.underlying u=some (.int k')) (hi:P.info? e=some i) (hz:i.zero=some z) (hzl:z.cells.toList.length=i.size)
 (b:Addr) (sLen sCap:Nat) (n:Int) (h0:0<=n) (h1:n<=1000000) (hb:i.bytes<=1000000)
 (hroom:sLen+n.toNat<=sCap) (w':World) (hst:(storeCells (b.add (sLen*i.size)) (lrep z.cells.toList n.toNat)).run P w = .ok () w') :
 (Builtin.append_ #[t,u] ty #[.slice (some b) sLen sCap,.int .i64 n]).run P w = .ok (.slice (some b) (sLen+n.toNat) sCap) w':=by
 have hw:=wrap_small h0 h1
 have hneg:¬ n<0:=by omega
 have hbig:¬ (281474976710656<n*(i.bytes:Int)):=by
  have:n*(i.bytes:Int)<=1000000*1000000:=Int.mul_le_mul h1 (by omega) (by omega) (by omega)
  omega
 by_cases e0:n.toNat*i.size=0
 .have hn:lrep z.cells.toList n.toNat=[]:=List.eq_nil_of_length_eq_zero (by rw [lrep_length,hzl,e0])
  rw [hn] at hst
  simp [Builtin.append_,run_underlying ht,run_underlying hu,sizeOf,typeInfo,hi,asInt,asIntOf,hw,hneg,hbig,hroom,e0,hst]
 .have hz':=zeros_eq z.cells n.toNat
  simp [Builtin.append_,run_underlying ht,run_underlying hu,sizeOf,typeInfo,zeroValue,hi,hz,asInt,asIntOf,hw,hneg,hbig,hroom,e0,hz',hst]
theorem app_grow_slice (ht:P.underlying t=some (.slice e)) (hu:P.underlying u=some (.slice e')) (hi:P.info? e=some i) (hz:i.zero=some z)
 (b:Option Addr) (sLen sCap:Nat) (x:Option Addr) (n c:Nat) (olds news:List Value) (hnew:(Builtin.firstCells i.size n (.slice x n c)).run P w.drew = .ok news.toArray w.drew)
 (hold:(Builtin.firstCells i.size sLen (.slice b sLen sCap)).run P w.drew = .ok olds.toArray w.drew)
 (hg:sCap<sLen+n) (h63:((sLen+n:Nat):Int)<=9223372036854775807) (hfit:Builtin.nextslicecap (sLen+n) sCap*i.bytes<=281474976710656) :
 (Builtin.append_ #[t,u] ty #[.slice b sLen sCap,.slice x n c]).run P w =
   .ok (.slice (some ⟨w.heap.size,0,none⟩) (sLen+n) (grownCap w (sLen+n) sCap e))
    (w.drew.alloc (.cells ((olds++news)++lrep z.cells.toList (grownCap w (sLen+n) sCap e-(sLen+n))).toArray e)):=by
 have hn:¬ (sLen+n<=sCap):=by omega
 have h63':¬ (9223372036854775807<((sLen:Int)+(n:Int))):=by omega
 have h48':¬ (281474976710656<Builtin.nextslicecap (sLen+n) sCap*i.bytes):=by omega
 simp [Builtin.append_,run_underlying ht,run_underlying hu,sizeOf,typeInfo,zeroValue,hi,hz,Builtin.lenOf,hn,h63',h48',Question.forced,hnew,hold,newRow,grownCap,zeros_eq]
theorem app_grow_zeros (ht:P.underlying t=some (.slice e)) (hu:P.underlying u=some (.int k')) (hi:P.info? e=some i) (hz:i.zero=some z) (hzl:z.cells.toList.length=i.size)
 (b:Option Addr) (sLen sCap:Nat) (n:Int) (h0:0<=n) (h1:n<=1000000) (hb:i.bytes<=1000000) (olds:List Value)
 (hold:(Builtin.firstCells i.size sLen (.slice b sLen sCap)).run P w.drew = .ok olds.toArray w.drew)
 (hg:sCap<sLen+n.toNat) (h63:((sLen+n.toNat:Nat):Int)<=9223372036854775807) (hfit:Builtin.nextslicecap (sLen+n.toNat) sCap*i.bytes<=281474976710656) :
 (Builtin.append_ #[t,u] ty #[.slice b sLen sCap,.int .i64 n]).run P w =
   .ok (.slice (some ⟨w.heap.size,0,none⟩) (sLen+n.toNat) (grownCap w (sLen+n.toNat) sCap e))
    (w.drew.alloc (.cells ((olds++lrep z.cells.toList n.toNat)++lrep z.cells.toList (grownCap w (sLen+n.toNat) sCap e-(sLen+n.toNat))).toArray e)):=by
 have hw:=wrap_small h0 h1
 have hneg:¬ n<0:=by omega
 have hbig:¬ (281474976710656<n*(i.bytes:Int)):=by
  have:n*(i.bytes:Int)<=1000000*1000000:=Int.mul_le_mul h1 (by omega) (by omega) (by omega)
  omega
 have hn:¬ (sLen+n.toNat<=sCap):=by omega
 have h63':¬ (9223372036854775807<((sLen:Int)+(n.toNat:Int))):=by omega
 have h63'':¬ (9223372036854775807<((sLen:Int)+max n 0)):=by omega
 have h48':¬ (281474976710656<Builtin.nextslicecap (sLen+n.toNat) sCap*i.bytes):=by omega
 by_cases e0:n.toNat*i.size=0
 .have hn0:lrep z.cells.toList n.toNat=[]:=List.eq_nil_of_length_eq_zero (by rw [lrep_length,hzl,e0])
  rw [hn0]
  simp [Builtin.append_,run_underlying ht,run_underlying hu,sizeOf,typeInfo,zeroValue,hi,hz,asInt,asIntOf,hw,hneg,hbig,hn,h63',h63'',h48',e0,Question.forced,hold,newRow,grownCap,zeros_eq]
 .simp [Builtin.append_,run_underlying ht,run_underlying hu,sizeOf,typeInfo,zeroValue,hi,hz,asInt,asIntOf,hw,hneg,hbig,hn,h63',h63'',h48',e0,Question.forced,hold,newRow,grownCap,zeros_eq]
end
theorem derive_sound [LG] {P:Program} {θ:Th} {h:Hp} {w:World} (hr:HR θ h w) {n0 nm:Nat} {e:Ent} {x:Nat × Nat × Nat} (he:tget h.m n0=some e) (hx:θ n0=some x) (hnm:θ nm=none)
 {sz sub len n:Nat} (hsz:1<=sz) (hu:e.unk=sz) (hwr:e.unk≠roU) {olds nc ns:List Value} (hold:rd e.cells (sub*sz) (len*sz)=some olds) (hnc:all2 (S θ) nc ns) (hl:nc.length=n*sz) (hneed:len+n<=x.2.2-sub) :
 (storeCells ⟨x.1,x.2.1+sub*sz+len*sz,none⟩ ns).run P w = .ok () (w.setCells x.1 (x.2.1+sub*sz+len*sz) ns)/\
 HR (fun k=>if k=nm then some (x.1,x.2.1+sub*sz,x.2.2-sub) else θ k) (halloc ⟨tset h.m n0 none,h.nxt⟩ nm (mkEnt (olds++nc) sz)) (w.setCells x.1 (x.2.1+sub*sz+len*sz) ns)/\
 Ext nm θ h w (fun k=>if k=nm then some (x.1,x.2.1+sub*sz,x.2.2-sub) else θ k) (halloc ⟨tset h.m n0 none,h.nxt⟩ nm (mkEnt (olds++nc) sz)) (w.setCells x.1 (x.2.1+sub*sz+len*sz) ns):=by
 obtain ⟨y,hy⟩:∃ y,y=x:=⟨x,rfl⟩
 subst hy
 have r:=hr.ent _ _ _ he hx
 have hne0:n0≠nm:=fun e1=>by subst e1; rw [hnm] at hx; cases hx
 have hol:=rd_len hold
 have hog:=rd_get hold
 have hnl:ns.length=n*sz:=by rw [<- all2_len hnc,hl]
 have hroom:∀ i,i<(y.2.2-sub)*sz->(w.cell? ⟨y.1,y.2.1+(sub*sz+i),none⟩).isSome=true/\w.frozen? ⟨y.1,y.2.1+(sub*sz+i),none⟩=false:=by
  intro i hi
  refine (r.room (by omega)).2 _ ?_
  rw [hu]
  have hlt:sub<=y.2.2:=by
   rcases Nat.lt_or_ge y.2.2 sub with h1 | h1
   .rw [Nat.sub_eq_zero_of_le (Nat.le_of_lt h1)] at hi; simp at hi
   .exact h1
  have:sub*sz+(y.2.2-sub)*sz=y.2.2*sz:=by rw [<- Nat.add_mul]; congr 1; omega
  omega
 have hmul:len*sz+n*sz<=(y.2.2-sub)*sz:=by rw [<- Nat.add_mul]; exact Nat.mul_le_mul_right _ hneed
 have hkeep:∀ k z,θ k=some z->(fun k=>if k=nm then some (y.1,y.2.1+sub*sz,y.2.2-sub) else θ k) k=some z:=by
  intro k z hz
  have:k≠nm:=fun e1=>by subst e1; rw [hnm] at hz; cases hz
  simp only [if_neg this,hz]
 have hone:∀ v∈ns,v.oneCell'=true:=by
  intro v hm
  obtain ⟨i,hi,rfl⟩:=List.getElem_of_mem hm
  have h1:nc[i]? = some nc[i]:=List.getElem?_eq_getElem (by omega)
  obtain ⟨b,hb,hS⟩:=all2_get hnc i _ h1
  rw [List.getElem?_eq_getElem hi] at hb
  cases hb
  exact S_one hS
 have hex:∀ j,j<ns.length->(w.cell? ⟨y.1,y.2.1+sub*sz+len*sz+j,none⟩).isSome=true/\w.frozen? ⟨y.1,y.2.1+sub*sz+len*sz+j,none⟩=false:=by
  intro j hj
  have:=hroom (len*sz+j) (by omega)
  rw [show y.2.1+sub*sz+len*sz+j=y.2.1+(sub*sz+(len*sz+j)) by omega]
  exact this
 have hrun:=run_storeCells_cells (P:=P) y.1 (y.2.1+sub*sz+len*sz) ns 0 w (by simpa using fun j hj=>(hex j hj).1) (by simpa using fun j hj=>(hex j hj).2) hone
 have hin:=World.cell?_setCells_in y.1 ns (y.2.1+sub*sz+len*sz) w (fun j hj=>(hex j hj).1)
 have hsep:∀ m e' z,tget h.m m=some e'->θ m=some z->m≠n0->z.1≠y.1:=fun m e' z h1 h2 h3=>hr.sep _ _ _ _ _ _ h1 he h3 h2 hx
 refine ⟨by simpa using hrun,⟨?_,?_,?_⟩,hkeep,?_,?_,?_,(setCells_os _ _ _ _).2.1,(setCells_os _ _ _ _).1,(setCells_os _ _ _ _).2.2,?_,?_,?_⟩
 .intro k ek xk hk hxk
  simp only [halloc,tget_tset] at hk
  by_cases hb:nm=k
  .subst hb
   rw [if_pos rfl] at hk
   cases hk
   simp only [if_true,Option.some.injEq] at hxk
   subst hxk
   refine ⟨by simp,by rw [setCells_size]; exact r.lt,fun i v hi=>?_,fun o ho=>(by cases ho),fun _=>⟨?_,fun i hi=>?_⟩⟩
   .simp only [mkEnt,tget_wr_nil] at hi
    rw [World.frozen?_setCells]
    by_cases hlt:i<olds.length
    .rw [List.getElem?_append_left hlt] at hi
     obtain ⟨⟨q,q1,q2⟩,q3⟩:=r.cell _ _ (hog i v hi)
     rw [<- Nat.add_assoc] at q1 q3
     refine ⟨⟨q,?_,S_mono hkeep q2⟩,q3⟩
     rw [World.cell?_setCells_out _ _ _ _ _ (fun _ _=>by simp only; omega)]
     exact q1
    .rw [List.getElem?_append_right (by omega)] at hi
     obtain ⟨q,q1,q2⟩:=all2_get hnc _ _ hi
     have hj:i-olds.length<ns.length:=by
      rcases Nat.lt_or_ge (i-olds.length) ns.length with g | g
      .exact g
      .rw [List.getElem?_eq_none g] at q1; cases q1
     have hcc:=hin (i-olds.length) hj
     rw [List.getElem?_eq_getElem hj] at q1
     cases q1
     have hpos:y.2.1+sub*sz+len*sz+(i-olds.length)=y.2.1+sub*sz+i:=by omega
     rw [hpos] at hcc
     refine ⟨⟨_,hcc,S_mono hkeep q2⟩,?_⟩
     have:=(hex (i-olds.length) hj).2
     rwa [hpos] at this
   .simp only [mkEnt,List.length_append]
    omega
   .rw [World.frozen?_setCells]
    have:=hroom i hi
    rw [<- Nat.add_assoc] at this
    refine ⟨?_,this.2⟩
    simp only
    by_cases hlt:len*sz<=i/\i<len*sz+ns.length
    .have hcc:=hin (i-len*sz) (by omega)
     rw [show y.2.1+sub*sz+len*sz+(i-len*sz)=y.2.1+sub*sz+i by omega] at hcc
     rw [hcc]; rfl
    .rw [World.cell?_setCells_out _ _ _ _ _ (fun _ _=>by simp only; omega)]
     exact this.1
  .rw [if_neg hb] at hk
   by_cases hb0:n0=k
   .rw [if_pos hb0] at hk; cases hk
   .rw [if_neg hb0] at hk
    simp only [if_neg (Ne.symm hb)] at hxk
    have rz:=hr.ent _ _ _ hk hxk
    have hs:=hsep _ _ _ hk rz.at_ (Ne.symm hb0)
    refine ⟨hkeep _ _ rz.at_,by rw [setCells_size]; exact rz.lt,fun i v hi=>?_,fun o ho=>(by rw [setCells_heap _ _ _ _ _ hs]; exact ObR_mono hkeep (rz.ob o ho)),fun hu'=>?_⟩
    .rw [World.frozen?_setCells,World.cell?_setCells_out _ _ _ _ _ (fun e1 _=>absurd e1 hs)]
     obtain ⟨⟨q,q1,q2⟩,q3⟩:=rz.cell i v hi
     exact ⟨⟨q,q1,S_mono hkeep q2⟩,q3⟩
    .obtain ⟨g1,g2⟩:=rz.room hu'
     refine ⟨g1,fun i hi=>?_⟩
     rw [World.frozen?_setCells,World.cell?_setCells_out _ _ _ _ _ (fun e1 _=>absurd e1 hs)]
     exact g2 i hi
 .intro k m e1 e2 z1 z2 h1 h2 hne t1 t2
  simp only [halloc,tget_tset] at h1 h2
  by_cases hk:nm=k
  .subst hk
   rw [if_neg hne] at h2
   simp only [if_true] at t1
   simp only [if_neg (Ne.symm hne)] at t2
   by_cases hb0:n0=m
   .rw [if_pos hb0] at h2; cases h2
   .rw [if_neg hb0] at h2
    cases t1
    exact (hsep _ _ _ h2 t2 (Ne.symm hb0)).symm
  .rw [if_neg hk] at h1
   simp only [if_neg (Ne.symm hk)] at t1
   by_cases hb1:n0=k
   .rw [if_pos hb1] at h1; cases h1
   .rw [if_neg hb1] at h1
    by_cases hm:nm=m
    .subst hm
     simp only [if_true] at t2
     cases t2
     exact hsep _ _ _ h1 t1 (Ne.symm hb1)
    .rw [if_neg hm] at h2
     simp only [if_neg (Ne.symm hm)] at t2
     by_cases hb0:n0=m
     .rw [if_pos hb0] at h2; cases h2
     .rw [if_neg hb0] at h2
      exact hr.sep k m e1 e2 z1 z2 h1 h2 hne t1 t2
 .intro k hk
  simp only [halloc] at hk
  have h1:k≠nm:=by omega
  simp only [if_neg h1]
  exact hr.fresh k (by omega)
 .intro k _ hne
  simp only [if_neg hne]
 .simp only [halloc]; omega
 .rw [setCells_size]; exact Nat.le_refl _
 .intro b hb hno
  exact setCells_heap _ _ _ _ _ (fun e1=>hno _ _ _ he hwr hx e1.symm)
 .intro k ek z h1 huk h2
  simp only [halloc,tget_tset] at h1
  by_cases hk:nm=k
  .subst hk
   simp only [if_true] at h2
   cases h2
   exact .inr ⟨n0,e,y,he,hwr,hx,rfl⟩
  .rw [if_neg hk] at h1
   simp only [if_neg (Ne.symm hk)] at h2
   by_cases hb0:n0=k
   .rw [if_pos hb0] at h1; cases h1
   .rw [if_neg hb0] at h1
    exact .inr ⟨k,ek,z,h1,huk,h2,rfl⟩
 .intro k ek z h1 h2
  simp only [halloc,tget_tset] at h1
  by_cases hk:nm=k
  .subst hk
   simp only [if_true] at h2
   cases h2
   exact .inr ⟨n0,e,y,he,hx,rfl⟩
  .rw [if_neg hk] at h1
   simp only [if_neg (Ne.symm hk)] at h2
   by_cases hb0:n0=k
   .rw [if_pos hb0] at h1; cases h1
   .rw [if_neg hb0] at h1
    exact .inr ⟨k,ek,z,h1,h2,rfl⟩
theorem op_makeSlice [LG] {E:Env} (hE:EnvT E) {o:Oper} {nm:Nat} {θ:Th} {h:Hp} {w:World} {a:Act} {T:Tm} (hr:HR θ h w) (ht:TO θ T a o) {t:TypeId} {l c:Operand} {k1 k2:IntKind} {n k:Int} {ti ei:TI}
 (hnm:θ nm=none) (ho:o.op = .makeSlice t l c) (hl:opv T l=some (.int k1 n)) (hc:opv T c=some (.int k2 k)) (hti:tget E.tt t=some ti) (hei:tget E.tt ti.elem=some ei) (hk:ti.kind=1)
 (h0:0<=n) (h1:n<=k) (h2:k<=1000000) (hb:ei.bytes<=1000000) (hzl:ei.zero.length=ei.size) :
 OpOk E.P o nm θ h w a (.slice (some ⟨nm,0,none⟩) n.toNat k.toNat) (halloc h nm (mkEnt (lrep ei.zero k.toNat) 0)):=by
 obtain ⟨i,d,z,fl,g1,g2,g3,g4,g5,rfl⟩:=ti_spec (hE _ _ hti)
 obtain ⟨i2,d2,z2,fs2,m1,m2,m3,m4,m5,rfl⟩:=ti_spec (hE _ _ hei)
 simp only at hk hei m1 m2 hb hzl
 rw [kind_slice hk] at g2
 obtain ⟨e1,e2⟩:=alloc_sound hr hnm [] (plain_all2 (plain_lrep m5 k.toNat)) (kindOf d).2.1 0 0 (fun e=>absurd rfl e)
 simp only [List.append_nil] at e1 e2
 have hln:a.eval l = .int k1 n:=ht _ (by simp [ho,Op.operands]) _ hl
 have hcn:a.eval c = .int k2 k:=ht _ (by simp [ho,Op.operands]) _ hc
 refine ⟨_,_,.slice (some ⟨w.heap.size,0,none⟩) n.toNat k.toNat,_,?_,.inl rfl,e2,e1,?_⟩
 .have w1:=wrap_small h0 (by omega)
  have w2:=wrap_small (n:=k) (by omega) h2
  have hbig:(i2.bytes:Int)*k<=1000000000000:=by
   have:(i2.bytes:Int)*k<=1000000*1000000:=Int.mul_le_mul (by omega) h2 (by omega) (by omega)
   omega
  have hnb:¬ (281474976710656<(i2.bytes:Int)*k):=by omega
  have hk0:¬ k<0:=by omega
  have hn0:¬ n<0:=by omega
  have hnk:¬ k<n:=by omega
  by_cases e:k.toNat*i2.size=0
  .have hn:(lrep z2.cells.toList k.toNat)=[]:=List.eq_nil_of_length_eq_zero (by rw [lrep_length,hzl,e])
   rw [hn]
   simp [execOp,ho,Instr.makeSlice,run_underlying g2,hln,hcn,asInt,asIntOf,w1,w2,run_typeInfo m1,hnb,hk0,hn0,hnk,run_sizeOf m1,e,newRow]
   have hz0:∀ f:Nat->Value,(Array.range 0).map f=([]:List Value).toArray:=fun f=>by simp
   rw [hz0]
  .have hrow:=range_zero z2.cells.toList k.toNat
   rw [hzl] at hrow
   simp only [Array.toArray_toList] at hrow
   simp [execOp,ho,Instr.makeSlice,run_underlying g2,hln,hcn,asInt,asIntOf,w1,w2,run_typeInfo m1,hnb,hk0,hn0,hnk,run_sizeOf m1,e,newRow,run_zeroValue m1 m3]
   congr 2
 .exact .inl ⟨rfl,(w.heap.size,0,0),k.toNat,by simp,.inl ⟨by unfold unkU; omega,rfl⟩,rfl⟩
theorem run_builtin {P:Program} {w w':World} {a:Act} {o:Oper} {c:Call} {b:Builtin} {us:List Value} {u:Value} (ho:o.op = .call c) (hc:c.callee = .builtin b) (hu:c.args.toList.map a.eval=us) {s:Sem Value}
 (hb:∀ consts,builtin b c.argTypes o.type consts us.toArray=(do pure (.value (<- s)))) (hs:s.run P w = .ok u w'):(execOp a.eval o).run P w = .ok (.value u) w':=by
 have harr:c.args.map a.eval=us.toArray:=by apply Array.ext'; simp [<- hu]
 simp [execOp,ho,resolve,hc,invoke,harr,hb,hs]
theorem op_len [LG] {E:Env} (hE:EnvT E) {o:Oper} {nm:Nat} {θ:Th} {h:Hp} {w:World} {a:Act} {T:Tm} (hr:HR θ h w) (ht:TO θ T a o) {c:Call} {sa:Option Addr} {n k:Nat} {t:TypeId} {ti:TI}
 (ho:o.op = .call c) (hc:c.callee = .builtin .len) (hv:opvs (opv T) c.args.toList=some [.slice sa n k]) (htys:c.argTypes.toList=[t]) (hti:tget E.tt t=some ti) (hk:ti.kind=1):OpOk E.P o nm θ h w a (.int .i64 n) h:=by
 obtain ⟨i,d,z,fl,g1,g2,g3,g4,g5,rfl⟩:=ti_spec (hE _ _ hti)
 simp only at hk
 rw [kind_slice hk] at g2
 have hw:=opvs_O (fun y hy=>ht y (by simp [ho,Op.operands,Call.operands]; exact .inr (by simpa using hy))) hv
 have hat:c.argTypes = #[t]:=by rw [<- Array.toArray_toList (xs:=c.argTypes),htys]
 match hm:c.args.toList.map a.eval,hw with
 | [y],hw =>
   have hy:∃ x c',y = .slice x n c':=by
    cases sa with
    | none=>exact ⟨none,k,hw.1⟩
    | some ad=>obtain ⟨x,c',e,_⟩:=SlR.some hw.1; exact ⟨_,c',e⟩
   obtain ⟨x,c',rfl⟩:=hy
   refine opOk_same hr (u:=.int .i64 n) (run_builtin ho hc hm (s:=Builtin.len_ c.argTypes o.type #[.slice x n c']) (fun _=>rfl) ?_) rfl
   simp [Builtin.len_,hat,run_underlying g2,goInt]
theorem op_cap [LG] {E:Env} (hE:EnvT E) {o:Oper} {nm:Nat} {θ:Th} {h:Hp} {w:World} {a:Act} {T:Tm} (hr:HR θ h w) (ht:TO θ T a o) {c:Call} {sa:Option Addr} {n k:Nat} {t:TypeId} {ti:TI}
 (ho:o.op = .call c) (hc:c.callee = .builtin .cap) (hv:opvs (opv T) c.args.toList=some [.slice sa n k]) (htys:c.argTypes.toList=[t]) (hti:tget E.tt t=some ti) (hk:ti.kind=1) (hlt:k<unkU):OpOk E.P o nm θ h w a (.int .i64 k) h:=by
 obtain ⟨i,d,z,fl,g1,g2,g3,g4,g5,rfl⟩:=ti_spec (hE _ _ hti)
 simp only at hk
 rw [kind_slice hk] at g2
 have hw:=opvs_O (fun y hy=>ht y (by simp [ho,Op.operands,Call.operands]; exact .inr (by simpa using hy))) hv
 have hat:c.argTypes = #[t]:=by rw [<- Array.toArray_toList (xs:=c.argTypes),htys]
 match hm:c.args.toList.map a.eval,hw with
 | [y],hw =>
   have hy:∃ x,y = .slice x n k:=by
    cases sa with
    | none=>exact ⟨none,hw.1⟩
    | some ad =>
      obtain ⟨x,c',e,hc'⟩:=SlR.some hw.1
      rw [hc' hlt] at e
      exact ⟨_,e⟩
   obtain ⟨x,rfl⟩:=hy
   refine opOk_same hr (u:=.int .i64 k) (run_builtin ho hc hm (s:=Builtin.cap_ c.argTypes o.type #[.slice x n k]) (fun _=>rfl) ?_) rfl
   simp [Builtin.cap_,hat,run_underlying g2,goInt]
theorem first_sound [LG] {P:Program} {θ:Th} {h:Hp} {w:World} (hr:HR θ h w) {sz n:Nat} {sa:Option Addr} {cap:Nat} {cs:List Value} {y:Value} (hy:W θ (.slice sa n cap) y) (hc:oldCells h sz sa n=some cs) :
 ∃ x c ds,y = .slice x n c/\all2 (S θ) cs ds/\ds.length=n*sz/\∀ k,(Builtin.firstCells sz n (.slice x n c)).run P { w with drawn:=k } = .ok (List.toArray ds) { w with drawn:=k }:=by
 cases sa with
 | none =>
   simp only [oldCells] at hc
   cases hn:Nat.beq n 0<;>simp [hn] at hc
   have hn0:n=0:=Nat.eq_of_beq_eq_true hn
   subst hc; subst hn0
   exact ⟨none,cap,[],hy,trivial,by simp,fun k=>by simp [Builtin.firstCells]⟩
 | some ad =>
   simp only [oldCells] at hc
   split at hc
   case h_2 _ sp hsp =>
    rcases (show SlR θ ad n cap y from hy) with ⟨q,_⟩ | ⟨_,hn0,_,x,c',e⟩
    .rw [hsp] at q; cases q
    .subst hn0
     cases hc
     exact ⟨_,c',[],e,trivial,by simp,fun k=>by simp [Builtin.firstCells,loadCells,loadCellsFrom]⟩
   rename_i hsp
   obtain ⟨hs,x,c',hx,hcap,e⟩:=SlR.here (show SlR θ ad n cap y from hy) hsp
   obtain ⟨ds,k1,k2,k3,k4⟩:=load_sound (P:=P) hr hc hx
   refine ⟨_,c',ds,e,k2,k4,fun k=>?_⟩
   have:=run_loadCells_list (P:=P) { w with drawn:=k } ⟨x.1,x.2.1+ad.off,none⟩ ds (fun j v hv=>by rw [add_addr]; exact k3 j v hv)
   rw [k4] at this
   simpa [Builtin.firstCells] using this
theorem grow_fits {need old bytes:Nat} (h:old<need) (hn:need<=1000000) (hb:bytes<=1000000):Builtin.nextslicecap need old*bytes<=281474976710656 :=
 growslice_fits h (Nat.le_trans (Nat.mul_le_mul hn hb) (by decide))
theorem W_unk {θ:Th} {nm len c b o:Nat} {x:Nat × Nat × Nat} (h:θ nm=some x) (h1:x.1=b) (h2:x.2.1=o) (hc:c=x.2.2):W θ (.slice (some ⟨nm,0,none⟩) len unkU) (.slice (some ⟨b,o,none⟩) len c) :=
 .inl ⟨rfl,x,c,h,.inr ⟨Nat.le_refl _,by rw [Nat.sub_self,Nat.sub_zero]; exact hc⟩,by rw [<- h1,<- h2]; rfl⟩
theorem append_core [LG] {P:Program} {o:Oper} {nm:Nat} {θ:Th} {h h':Hp} {w:World} {a:Act} (hr:HR θ h w) {ti:TI} {i:TypeInfo} {z:Value} {e:TypeId} (hi:P.info? e=some i) (hz:i.zero=some z) (hts:ti.size=i.size) (htb:ti.bytes=i.bytes) (hzl:z.cells.toList.length=i.size)
 {sa:Option Addr} {len cap n:Nat} {nc ns:List Value} {y v:Value} (hnm:θ nm=none) (hy:W θ (.slice sa len cap) y) (hnc:all2 (S θ) nc ns) (hnl:ns.length=n*i.size)
 (hroom:∀ (b:Addr) (c:Nat) (w':World),y = .slice (some b) len c->len+n<=c->(storeCells (b.add (len*i.size)) ns).run P w = .ok () w'->(execOp a.eval o).run P w = .ok (.value (.slice (some b) (len+n) c)) w')
 (hroom0:∀ (c:Nat),y = .slice none len c->len=0->n=0->(execOp a.eval o).run P w = .ok (.value (.slice none 0 c)) w)
 (hgrow:∀ (b:Option Addr) (c:Nat) (olds:List Value),y = .slice b len c->c<len+n->(Builtin.firstCells i.size len (.slice b len c)).run P w.drew = .ok olds.toArray w.drew->len+n<=1000000->i.bytes<=1000000->
   (execOp a.eval o).run P w = .ok (.value (.slice (some ⟨w.heap.size,0,none⟩) (len+n) (grownCap w (len+n) c e)))
     (w.drew.alloc (.cells ((olds++ns)++lrep z.cells.toList (grownCap w (len+n) c e-(len+n))).toArray e)))
 (hx:xappend h nm ti sa len cap n nc=some (v,h')):OpOk P o nm θ h w a v h':=by
 simp only [xappend] at hx
 cases hb:(Nat.ble (len+n) 1000000&&Nat.ble ti.bytes 1000000&&Nat.ble 1 ti.size)<;>simp only [hb,cond_true,cond_false] at hx
 .cases hx
 simp only [Bool.and_eq_true] at hb
 have b1:=Nat.le_of_ble_eq_true hb.1.1
 have b2:=Nat.le_of_ble_eq_true hb.1.2
 have b3:=Nat.le_of_ble_eq_true hb.2
 rw [hts] at hx b3
 rw [htb] at b2
 have hncl:nc.length=n*i.size:=by rw [all2_len hnc,hnl]
 -- a new row
 have grow:∀ (b:Option Addr) (c:Nat) (old olds:List Value),y = .slice b len c->c<len+n->all2 (S θ) old olds->olds.length=len*i.size->
  (Builtin.firstCells i.size len (.slice b len c)).run P w.drew = .ok olds.toArray w.drew->
  ∃ θ' w' u nx,(execOp a.eval o).run P w = .ok nx w'/\(nx = .value u\/(nx = .skip/\u=undef))/\W θ' (.slice (some ⟨nm,0,none⟩) (len+n) unkU) u/\
   HR θ' (halloc h nm (mkEnt (old++nc) i.size)) w'/\Ext nm θ h w θ' (halloc h nm (mkEnt (old++nc) i.size)) w'/\θ'=(fun k=>if k=nm then some (w.heap.size,0,grownCap w (len+n) c e) else θ k)/\
   w'=w.drew.alloc (.cells ((olds++ns)++lrep z.cells.toList (grownCap w (len+n) c e-(len+n))).toArray e):=by
  intro b c old olds hyb hc hol hll hrun
  have hge:=grownCap_ge w (len+n) c e
  have hlen:(old++nc).length<=grownCap w (len+n) c e*i.size/\grownCap w (len+n) c e*i.size<=((olds++ns)++lrep z.cells.toList (grownCap w (len+n) c e-(len+n))).length:=by
   have l1:=all2_len hol
   simp only [List.length_append,lrep_length,hzl,hncl,hll,hnl,l1]
   have e1:len*i.size+n*i.size=(len+n)*i.size:=by rw [Nat.add_mul]
   rw [e1]
   have e2:(len+n)*i.size+(grownCap w (len+n) c e-(len+n))*i.size=grownCap w (len+n) c e*i.size:=by rw [<- Nat.add_mul]; congr 1; omega
   exact ⟨Nat.mul_le_mul_right _ hge,by omega⟩
  obtain ⟨g1,g2⟩:=alloc_sound (hr.drawn (w.drawn+1)) hnm (lrep z.cells.toList (grownCap w (len+n) c e-(len+n))) (all2_append hol hnc) e (grownCap w (len+n) c e) i.size (fun _=>hlen)
  refine ⟨_,_,_,_,hgrow b c olds hyb hc hrun b1 b2,.inl rfl,?_,g1,(Ext.drawn nm θ h w (w.drawn+1)).trans g2 (fun _ _ k=>k),rfl,rfl⟩
  exact .inl ⟨rfl,(w.heap.size,0,grownCap w (len+n) c e),grownCap w (len+n) c e,by simp,.inr ⟨Nat.le_refl _,by simp⟩,rfl⟩
 cases hlt:Nat.blt cap unkU<;>simp only [hlt,cond_true,cond_false] at hx
 .
  have hge:unkU<=cap:=by
   rcases Nat.lt_or_ge cap unkU with g | g
   .have:Nat.blt cap unkU=true:=by unfold Nat.blt; exact Nat.ble_eq_true_of_le g
    rw [this] at hlt; cases hlt
   .exact g
  cases sa with
  | none=>cases hx
  | some b =>
    simp only at hx
    have hbs:b.spot=none:=by
     have hx:=hx
     split at hx
     .cases hx
     .rename_i ent hent
      cases hq:(Nat.beq ent.unk i.size&&Nat.beq b.off ((cap-unkU)*i.size)&&b.spot.isNone&&wrB ent)<;>simp only [hq,cond_true,cond_false] at hx
      .cases hx
      .simp only [Bool.and_eq_true] at hq
       simpa using hq.1.2
    obtain ⟨hs,x,c',hxb,hcap,hyv⟩:b.spot=none/\∃ x c',θ b.block=some x/\capR x.2.2 cap c'/\y = .slice (some ⟨x.1,x.2.1+b.off,none⟩) len c':=SlR.here hy hbs
    rcases hcap with ⟨g,_⟩ | ⟨_,hc'⟩
    .omega
    split at hx
    .cases hx
    .rename_i ent hent
     cases hq:(Nat.beq ent.unk i.size&&Nat.beq b.off ((cap-unkU)*i.size)&&b.spot.isNone&&wrB ent)<;>simp only [hq,cond_true,cond_false] at hx
     .cases hx
     simp only [Bool.and_eq_true] at hq
     have q1:ent.unk=i.size:=Nat.eq_of_beq_eq_true hq.1.1.1
     have q2:b.off=(cap-unkU)*i.size:=Nat.eq_of_beq_eq_true hq.1.1.2
     have qw:=(wrB_spec hq.2).1
     generalize hsub:cap-unkU=sub at hc' q2
     obtain ⟨xx,hxx⟩:∃ xx,xx=x:=⟨x,rfl⟩
     subst hxx
     have r:=hr.ent _ _ _ hent hxb
     cases hin:Nat.ble (b.off+(len+n)*i.size) ent.len<;>simp only [hin,cond_true,cond_false] at hx
     .
      obtain ⟨old,hold,hv⟩:=ob_some hx
      cases hv
      rw [q2] at hold
      by_cases hroomy:len+n<=c'
      .obtain ⟨g1,g2,g3⟩:=derive_sound (P:=P) hr hent hxb hnm b3 q1 qw hold hnc hncl (by rw [<- hc']; exact hroomy)
       refine ⟨_,_,.slice (some ⟨xx.1,xx.2.1+b.off,none⟩) (len+n) c',_,hroom _ c' _ hyv hroomy ?_,.inl rfl,g3,g2,?_⟩
       .rw [add_addr,q2]; exact g1
       .exact W_unk (x:=(xx.1,xx.2.1+sub*i.size,xx.2.2-sub)) (by simp) rfl (by rw [q2]) hc'
      .have hl:hload h b (len*i.size)=some old:=by
        unfold hload
        rw [hs,hent]
        simp only
        rw [q2]; exact hold
       obtain ⟨ds,k1,k2,k3,k4⟩:=load_sound (P:=P) hr hl hxb
       have hrun:(Builtin.firstCells i.size len (.slice (some ⟨xx.1,xx.2.1+b.off,none⟩) len c')).run P w.drew = .ok ds.toArray w.drew:=by
        have:=run_loadCells_list (P:=P) w.drew ⟨xx.1,xx.2.1+b.off,none⟩ ds (fun j v hv=>by rw [add_addr]; exact k3 j v hv)
        rw [k4] at this
        simpa [Builtin.firstCells] using this
       obtain ⟨θ',w',u,nx,m1,m2,m3,m4,m5,rfl,m6⟩:=grow _ c' old ds hyv (by omega) k2 k4 hrun
       refine ⟨_,_,u,nx,m1,m2,?_,?_,m3⟩
       .refine ⟨m5.keep,m5.only,m5.nxt,m5.size,m5.tape,m5.os,m5.output,m5.frame,fun k ek zk h1 huk h2=>?_,fun k ek zk h1 h2=>?_⟩
        all_goals
         simp only [halloc,tget_tset] at h1
         first | refine m5.ownw k ek zk ?_ huk h2 | refine m5.own k ek zk ?_ h2
         simp only [halloc,tget_tset]
         by_cases hk:nm=k
         .rw [if_pos hk] at h1 ⊢; exact h1
         .rw [if_neg hk] at h1 ⊢
          by_cases hk2:b.block=k
          .rw [if_pos hk2] at h1; cases h1
          .rw [if_neg hk2] at h1; exact h1
       .have lift:∀ k ek,tget (halloc ⟨tset h.m b.block none,h.nxt⟩ nm (mkEnt (old++nc) i.size)).m k=some ek->tget (halloc h nm (mkEnt (old++nc) i.size)).m k=some ek:=by
         intro k ek h1
         simp only [halloc,tget_tset] at h1 ⊢
         by_cases hk:nm=k
         .rw [if_pos hk] at h1 ⊢; exact h1
         .rw [if_neg hk] at h1 ⊢
          by_cases hk2:b.block=k
          .rw [if_pos hk2] at h1; cases h1
          .rw [if_neg hk2] at h1; exact h1
        exact ⟨fun k ek xk h1=>m4.ent k ek xk (lift k ek h1),fun k m e1 e2 x1 x2 h1 h2 hne t1 t2=>m4.sep k m e1 e2 x1 x2 (lift _ _ h1) (lift _ _ h2) hne t1 t2,m4.fresh⟩
     .
      have hle:=Nat.le_of_ble_eq_true hin
      obtain ⟨h2,hst,hv⟩:=ob_some hx
      cases hv
      obtain ⟨g1,g2,g3⟩:=store_sound (P:=P) hr hst (x:=xx) hxb hnc
      have hrm:=(r.room (by omega)).1
      rw [q1] at hrm
      have hroomy:len+n<=c':=by
       rw [hc']
       have hmul:(sub+(len+n))*i.size<=xx.2.2*i.size:=by rw [Nat.add_mul]; omega
       have:=Nat.le_of_mul_le_mul_right hmul (by omega)
       omega
      refine ⟨θ,_,.slice (some ⟨xx.1,xx.2.1+b.off,none⟩) (len+n) c',_,hroom _ c' _ hyv hroomy ?_,.inl rfl,g3 nm,g2,.inl ⟨hs,xx,c',hxb,.inr ⟨hge,by rw [hsub]; exact hc'⟩,rfl⟩⟩
      rw [add_addr,Nat.add_assoc]; exact g1
 .
  have hltc:cap<unkU:=by unfold Nat.blt at hlt; exact Nat.le_of_ble_eq_true hlt
  cases hle:Nat.ble (len+n) cap<;>simp only [hle,cond_true,cond_false] at hx
  .have hgt:cap<len+n:=by
    rcases Nat.lt_or_ge cap (len+n) with g | g
    .exact g
    .rw [Nat.ble_eq_true_of_le g] at hle; cases hle
   obtain ⟨old,hold,hv⟩:=ob_some hx
   cases hv
   obtain ⟨b,c,ds,hyv,k2,k4,hrun⟩:=first_sound (P:=P) hr hy hold
   have hcc:c=cap:=by
    cases sa with
    | none =>
      have h1:y = .slice none len cap:=hy
      rw [hyv] at h1; cases h1; rfl
    | some ad =>
      obtain ⟨_,x,c',_,hcap,h1⟩:ad.spot=none/\∃ x c',θ ad.block=some x/\capR x.2.2 cap c'/\y = .slice (some ⟨x.1,x.2.1+ad.off,none⟩) len c':=(show SlR θ ad len cap y from hy).resolve_right fun q=>by have:=q.2.2.1; omega
      rw [hyv] at h1
      cases h1
      rcases hcap with ⟨_,h2⟩ | ⟨h2,_⟩
      .exact h2
      .omega
   obtain ⟨θ',w',u,nx,m1,m2,m3,m4,m5,_,_⟩:=grow b c old ds hyv (by omega) k2 k4 (hrun (w.drawn+1))
   exact ⟨θ',w',u,nx,m1,m2,m5,m4,m3⟩
  .have hroomy:=Nat.le_of_ble_eq_true hle
   cases sa with
   | none =>
     simp only at hx
     cases hz0:Nat.beq (len+n) 0<;>simp only [hz0,cond_true,cond_false] at hx
     .cases hx
     .cases hx
      have hn0:len+n=0:=Nat.eq_of_beq_eq_true hz0
      have h1:y = .slice none len cap:=hy
      exact opOk_same hr (hroom0 cap h1 (by omega) (by omega)) rfl
   | some b =>
     simp only at hx
     obtain ⟨h2,hst,hv⟩:=ob_some hx
     cases hv
     obtain ⟨hs,x,c',hxb,hcap,hyv⟩:b.spot=none/\∃ x c',θ b.block=some x/\capR x.2.2 cap c'/\y = .slice (some ⟨x.1,x.2.1+b.off,none⟩) len c':=(show SlR θ b len cap y from hy).resolve_right fun q=>by have:=q.2.2.1; omega
     obtain ⟨g1,g2,g3⟩:=store_sound (P:=P) hr hst (x:=x) hxb hnc
     rcases hcap with ⟨_,hc'⟩ | ⟨hge,_⟩
     .subst hc'
      refine ⟨θ,_,.slice (some ⟨x.1,x.2.1+b.off,none⟩) (len+n) c',_,hroom _ c' _ hyv hroomy ?_,.inl rfl,g3 nm,g2,.inl ⟨hs,x,c',hxb,.inl ⟨hltc,rfl⟩,rfl⟩⟩
      rw [add_addr,Nat.add_assoc]; exact g1
     .omega
theorem op_append [LG] {E:Env} (hE:EnvT E) {o:Oper} {nm:Nat} {θ:Th} {h h':Hp} {w:World} {a:Act} {T:Tm} {v:Value} (hr:HR θ h w) (ht:TO θ T a o) {c:Call} {sa:Option Addr} {len cap:Nat} {x:Value} {t u:TypeId} {ti ei ui:TI} {nc:Nat × List Value}
 (hnm:θ nm=none) (ho:o.op = .call c) (hc:c.callee = .builtin .append) (hv:opvs (opv T) c.args.toList=some [.slice sa len cap,x]) (htys:c.argTypes.toList=[t,u]) (hti:tget E.tt t=some ti) (hei:tget E.tt ti.elem=some ei) (hui:tget E.tt u=some ui)
 (hk:ti.kind=1) (hxk:appK ui.kind x=true) (hzl:ei.zero.length=ei.size) (hnew:newCells h ei x=some nc) (hx:xappend h nm ei sa len cap nc.1 nc.2=some (v,h')) :
 OpOk E.P o nm θ h w a v h':=by
 obtain ⟨i,d,z,fl,g1,g2,g3,g4,g5,rfl⟩:=ti_spec (hE _ _ hti)
 obtain ⟨i2,d2,z2,fs2,m1,m2,m3,m4,m5,rfl⟩:=ti_spec (hE _ _ hei)
 obtain ⟨i3,d3,z3,fs3,p1,p2,p3,p4,p5,rfl⟩:=ti_spec (hE _ _ hui)
 simp only at hk hei m1 m2 hzl hxk
 rw [kind_slice hk] at g2
 have hat:c.argTypes = #[t,u]:=by rw [<- Array.toArray_toList (xs:=c.argTypes),htys]
 have hw:=opvs_O (fun y hy=>ht y (by simp [ho,Op.operands,Call.operands]; exact .inr (by simpa using hy))) hv
 match hm:c.args.toList.map a.eval,hw with
 | [y,xv],hw =>
   have hrun:∀ {s:Value} {w':World},(Builtin.append_ #[t,u] o.type #[y,xv]).run E.P w = .ok s w'->(execOp a.eval o).run E.P w = .ok (.value s) w':=fun {s w'} hs =>
    run_builtin ho hc hm (s:=Builtin.append_ c.argTypes o.type #[y,xv]) (fun _=>rfl) (by rw [hat]; exact hs)
   cases x with
   | slice xa n xc =>
     have hd3:=kind_slice (Nat.eq_of_beq_eq_true hxk)
     rw [hd3] at p2
     have hoc:nc.1=n/\oldCells h i2.size xa n=some nc.2:=by
      cases xa with
      | none =>
        simp only [newCells] at hnew
        cases hn:Nat.beq n 0<;>simp [hn] at hnew
        subst hnew
        exact ⟨(Nat.eq_of_beq_eq_true hn).symm,by simp [oldCells,hn]⟩
      | some ad =>
        simp only [newCells] at hnew
        obtain ⟨cs,k1,k2⟩:=ob_some hnew
        cases k2
        exact ⟨rfl,k1⟩
     obtain ⟨hn1,hoc⟩:=hoc
     obtain ⟨b,xc',ns,hxv,k2,k4,hfirst⟩:=first_sound (P:=E.P) hr hw.2.1 hoc
     subst hxv
     rw [hn1] at hx
     refine append_core hr m1 m3 rfl rfl hzl hnm hw.1 k2 k4 ?_ ?_ ?_ hx
     .intro b' c' w' hy hroom hst
      subst hy
      exact hrun (app_room_slice w t u o.type _ i2 z2 g2 p2 m1 m3 b' len c' b n xc' ns (fun s'=>by
       by_cases e:s'=w
       .subst e; exact .inl (hfirst s'.drawn)
       .exact .inr e) hroom w' hst)
     .intro c' hy hl0 hn0
      subst hy; subst hl0; subst hn0
      have:=hfirst w.drawn
      refine hrun ?_
      simp at k4
      subst k4
      have hf:(Builtin.firstCells i2.size 0 (.slice b 0 xc')).run E.P w = .ok #[] w:=this
      simp [Builtin.append_,run_underlying g2,run_underlying p2,sizeOf,typeInfo,m1,Builtin.lenOf,hf]
     .intro b' c' olds hy hlt hold hb1 hb2
      subst hy
      exact hrun (app_grow_slice w t u o.type _ i2 z2 g2 p2 m1 m3 b' len c' b n xc' olds ns (hfirst (w.drawn+1)) hold hlt (by omega) (grow_fits hlt hb1 hb2))
   | int k n =>
     obtain ⟨k3,hd3⟩:=kind_int (Nat.eq_of_beq_eq_true hxk)
     rw [hd3] at p2
     have hxv:xv = .int k n:=hw.2.1
     subst hxv
     cases k<;>simp only [newCells,reduceCtorEq] at hnew
     case i64 =>
      cases hb:(decide (0<=n)&&decide (n<=1000000))<;>simp only [hb,cond_true,cond_false] at hnew
      .cases hnew
      .cases hnew
       simp only [Bool.and_eq_true,decide_eq_true_eq] at hb
       refine append_core hr m1 m3 rfl rfl hzl hnm hw.1 (plain_all2 (plain_lrep m5 n.toNat)) (by rw [lrep_length,hzl]) ?_ ?_ ?_ hx
       .intro b' c' w' hy hroom hst
        subst hy
        by_cases hbb:i2.bytes<=1000000
        .exact hrun (app_room_zeros w t u o.type _ i2 z2 g2 p2 m1 m3 hzl b' len c' n hb.1 hb.2 hbb hroom w' hst)
        .exfalso
         simp only [xappend] at hx
         have:Nat.ble i2.bytes 1000000=false:=by
          cases hq:Nat.ble i2.bytes 1000000
          .rfl
          .exact absurd (Nat.le_of_ble_eq_true hq) hbb
         simp [this] at hx
       .intro c' hy hl0 hn0
        subst hy; subst hl0
        have hn1:n=0:=by omega
        subst hn1
        refine hrun ?_
        have hw0:=wrap_small (n:=0) (by omega) (by omega)
        simp [Builtin.append_,run_underlying g2,run_underlying p2,sizeOf,typeInfo,m1,asInt,asIntOf,hw0]
       .intro b' c' olds hy hlt hold hb1 hb2
        subst hy
        exact hrun (app_grow_zeros w t u o.type _ i2 z2 g2 p2 m1 m3 hzl b' len c' n hb.1 hb.2 hb2 olds hold hlt (by omega) (grow_fits hlt hb1 hb2))
   | _=>cases hxk
theorem all2_two {α β:Type} {p:α->β->Prop} {a b:α}:∀ {l:List β},all2 p [a,b] l->∃ x y,l=[x,y]/\p a x/\p b y
 | [x,y],h=>⟨x,y,rfl,h.1,h.2.1⟩
 | [],h=>h.elim
 | [_],h=>h.2.elim
 | _ :: _ :: _ :: _,h=>h.2.2.elim
theorem hload_spot {h:Hp} {a:Addr} {n:Nat} {cs:List Value} (hl:hload h a n=some cs):a.spot=none:=by
 unfold hload at hl
 split at hl
 .rename_i h1 _; exact h1
 .cases hl
theorem hstore_spot {h h':Hp} {a:Addr} {cs:List Value} (hl:hstore h a cs=some h'):a.spot=none:=by
 unfold hstore at hl
 split at hl
 .rename_i h1 _; exact h1
 .cases hl
theorem op_copy [LG] {E:Env} (hE:EnvT E) {o:Oper} {nm:Nat} {θ:Th} {h h':Hp} {w:World} {a:Act} {T:Tm} (hr:HR θ h w) (ht:TO θ T a o) {c:Call} {ad bd:Addr} {len cap n k:Nat} {t u:TypeId} {ti ei:TI} {cs:List Value}
 (ho:o.op = .call c) (hc:c.callee = .builtin .copy) (hv:opvs (opv T) c.args.toList=some [.slice (some ad) len cap,.slice (some bd) n k]) (htys:c.argTypes.toList=[t,u]) (hti:tget E.tt t=some ti) (hei:tget E.tt ti.elem=some ei)
 (hk:ti.kind=1) (hl:hload h bd (min n len*ei.size)=some cs) (hs:hstore h ad cs=some h'):OpOk E.P o nm θ h w a (.int .i64 (min n len:Nat)) h':=by
 obtain ⟨i,d,z,fl,g1,g2,g3,g4,g5,rfl⟩:=ti_spec (hE _ _ hti)
 obtain ⟨i2,d2,z2,fs2,m1,m2,m3,m4,m5,rfl⟩:=ti_spec (hE _ _ hei)
 simp only at hk hei m1 m2 hl
 rw [kind_slice hk] at g2
 have hat:c.argTypes = #[t,u]:=by rw [<- Array.toArray_toList (xs:=c.argTypes),htys]
 have hw:=opvs_O (fun y hy=>ht y (by simp [ho,Op.operands,Call.operands]; exact .inr (by simpa using hy))) hv
 obtain ⟨y,xv,hm,hw1,hw2⟩:=all2_two hw
 .obtain ⟨_,x1,c1,hx1,_,rfl⟩:ad.spot=none/\∃ x c',θ ad.block=some x/\capR x.2.2 cap c'/\y = .slice (some ⟨x.1,x.2.1+ad.off,none⟩) len c':=SlR.here hw1 (hstore_spot hs)
  obtain ⟨_,x2,c2,hx2,_,rfl⟩:bd.spot=none/\∃ x c',θ bd.block=some x/\capR x.2.2 k c'/\xv = .slice (some ⟨x.1,x.2.1+bd.off,none⟩) n c':=SlR.here hw2 (hload_spot hl)
  obtain ⟨ds,k1,k2,k3,k4⟩:=load_sound (P:=E.P) hr hl hx2
  obtain ⟨q1,q2,q3⟩:=store_sound (P:=E.P) hr hs hx1 k2
  refine ⟨θ,_,.int .i64 (min n len:Nat),_,run_builtin ho hc hm (s:=Builtin.copy_ c.argTypes o.type #[.slice (some ⟨x1.1,x1.2.1+ad.off,none⟩) len c1,.slice (some ⟨x2.1,x2.2.1+bd.off,none⟩) n c2]) (fun _=>rfl) ?_,.inl rfl,q3 nm,q2,rfl⟩
  have hmin:Nat.min n len=min n len:=rfl
  simp [Builtin.copy_,hat,run_underlying g2,Builtin.lenOf,Builtin.firstCells,run_sizeOf m1,hmin,k1,q1,goInt]
theorem op_copy_none [LG] {E:Env} (hE:EnvT E) {o:Oper} {nm:Nat} {θ:Th} {h:Hp} {w:World} {a:Act} {T:Tm} (hr:HR θ h w) (ht:TO θ T a o) {c:Call} {ad bd:Option Addr} {len cap n k:Nat} {t u:TypeId} {ti ei:TI}
 (ho:o.op = .call c) (hc:c.callee = .builtin .copy) (hv:opvs (opv T) c.args.toList=some [.slice ad len cap,.slice bd n k]) (htys:c.argTypes.toList=[t,u]) (hti:tget E.tt t=some ti) (hei:tget E.tt ti.elem=some ei)
 (hk:ti.kind=1) (hz:min n len=0):OpOk E.P o nm θ h w a (.int .i64 0) h:=by
 obtain ⟨i,d,z,fl,g1,g2,g3,g4,g5,rfl⟩:=ti_spec (hE _ _ hti)
 obtain ⟨i2,d2,z2,fs2,m1,m2,m3,m4,m5,rfl⟩:=ti_spec (hE _ _ hei)
 simp only at hk hei m1 m2
 rw [kind_slice hk] at g2
 have hat:c.argTypes = #[t,u]:=by rw [<- Array.toArray_toList (xs:=c.argTypes),htys]
 have hw:=opvs_O (fun y hy=>ht y (by simp [ho,Op.operands,Call.operands]; exact .inr (by simpa using hy))) hv
 match hm:c.args.toList.map a.eval,hw with
 | [y,xv],hw =>
   have hy:∀ (sa:Option Addr) (l c0:Nat) (yv:Value),W θ (.slice sa l c0) yv->∃ x c',yv = .slice x l c':=by
    intro sa l c0 yv hh
    cases sa with
    | none=>exact ⟨none,c0,hh⟩
    | some ad=>obtain ⟨x,c',e,_⟩:=SlR.some hh; exact ⟨_,c',e⟩
   obtain ⟨x1,c1,rfl⟩:=hy _ _ _ _ hw.1
   obtain ⟨x2,c2,rfl⟩:=hy _ _ _ _ hw.2.1
   refine opOk_same hr (u:=.int .i64 0) (run_builtin ho hc hm (s:=Builtin.copy_ c.argTypes o.type #[.slice x1 len c1,.slice x2 n c2]) (fun _=>rfl) ?_) rfl
   have hmin:Nat.min n len=0:=hz
   cases x1<;>cases x2<;>simp [Builtin.copy_,hat,run_underlying g2,Builtin.lenOf,Builtin.firstCells,run_sizeOf m1,hmin,goInt,loadCells,loadCellsFrom,storeCells]
theorem eq_slice_l {P:Program} {t e:TypeId} (hu:P.underlying t=some (.slice e)) (d l c l' c':Nat) (b:Addr) (w:World):(Op.equalIn (d+1) t (.slice none l c) (.slice (some b) l' c')).run P w = .ok false w:=by
 rw [Op.equalIn]
 simp only [Sem.run_bind,run_underlying hu,Result.andThen_ok]
 rfl
theorem eq_slice_r {P:Program} {t e:TypeId} (hu:P.underlying t=some (.slice e)) (d l c l' c':Nat) (b:Addr) (w:World):(Op.equalIn (d+1) t (.slice (some b) l c) (.slice none l' c')).run P w = .ok false w:=by
 rw [Op.equalIn]
 simp only [Sem.run_bind,run_underlying hu,Result.andThen_ok]
 rfl
theorem eq_ptr_l {P:Program} {t e:TypeId} (hu:P.underlying t=some (.pointer e)) (d:Nat) (b:Addr) (w:World):(Op.equalIn (d+1) t (.pointer none) (.pointer (some b))).run P w = .ok false w:=by
 rw [Op.equalIn]
 simp only [Sem.run_bind,run_underlying hu,Result.andThen_ok]
 rfl
theorem eq_ptr_r {P:Program} {t e:TypeId} (hu:P.underlying t=some (.pointer e)) (d:Nat) (b:Addr) (w:World):(Op.equalIn (d+1) t (.pointer (some b)) (.pointer none)).run P w = .ok false w:=by
 rw [Op.equalIn]
 simp only [Sem.run_bind,run_underlying hu,Result.andThen_ok]
 rfl
theorem eq_func_r {P:Program} {t:TypeId} {p q:Array TypeId} {v:Bool} (hu:P.underlying t=some (.func p q v)) (d:Nat) (fn:Fn) (x y:Array Value) (w:World):(Op.equalIn (d+1) t (.func fn x y) .nilFunc).run P w = .ok false w:=by
 rw [Op.equalIn]
 simp only [Sem.run_bind,run_underlying hu,Result.andThen_ok]
 rfl
theorem eq_func_l {P:Program} {t:TypeId} {p q:Array TypeId} {v:Bool} (hu:P.underlying t=some (.func p q v)) (d:Nat) (fn:Fn) (x y:Array Value) (w:World):(Op.equalIn (d+1) t .nilFunc (.func fn x y)).run P w = .ok false w:=by
 rw [Op.equalIn]
 simp only [Sem.run_bind,run_underlying hu,Result.andThen_ok]
 rfl
theorem bin_of_equal {P:Program} {t:TypeId} {p q:Value} (hb1:binOp .eql t p q=(do pure (.bool (<- Op.equal t p q)))) (hb2:binOp .neq t p q=(do pure (.bool (!(<- Op.equal t p q))))) (he:∀ w,(Op.equal t p q).run P w = .ok false w) :
 (∀ w,(binOp .eql t p q).run P w = .ok (.bool false) w)/\(∀ w,(binOp .neq t p q).run P w = .ok (.bool (!false)) w) :=
 ⟨fun w=>by rw [hb1]; simp only [Sem.run_bind,he,Result.andThen_ok]; rfl,fun w=>by rw [hb2]; simp only [Sem.run_bind,he,Result.andThen_ok]; rfl⟩
theorem op_nilEq [LG] {E:Env} (hE:EnvT E) {o:Oper} {nm:Nat} {θ:Th} {h:Hp} {w:World} {a:Act} {T:Tm} (hr:HR θ h w) (ht:TO θ T a o) {op:BinOp} {t t2:TypeId} {x y:Operand} {p q:Value} {ti:TI} {r:Bool} (ho:o.op = .binOp op t x y t2)
 (hx:opv T x=some p) (hy:opv T y=some q) (hti:tget E.tt t=some ti) (hk:nilKind ti.kind p=true) (hn:nilEq p q=some r) (hop:op = .eql\/op = .neq):OpOk E.P o nm θ h w a (.bool (if op = .eql then r else !r)) h:=by
 obtain ⟨i,d,z,fl,g1,g2,g3,g4,g5,rfl⟩:=ti_spec (hE _ _ hti)
 simp only at hk
 have hwx:=ht _ (by simp [ho,Op.operands]) _ hx
 have hwy:=ht _ (by simp [ho,Op.operands]) _ hy
 have key:∃ p' q',a.eval x=p'/\a.eval y=q'/\(∀ w,(Op.equal t p' q').run E.P w = .ok r w)/\(∀ op',(eqGuard op' t x y p' q').run E.P w = .ok () w)/\(∀ w,(binOp .eql t p' q').run E.P w = .ok (.bool r) w)/\(∀ w,(binOp .neq t p' q').run E.P w = .ok (.bool (!r)) w):=by
  cases p<;>simp only [nilKind,Bool.false_eq_true] at hk
  case slice sa l c =>
   have hd:=kind_slice (Nat.eq_of_beq_eq_true hk)
   rw [hd] at g2
   cases sa with
   | none =>
     cases q<;>simp only [nilEq,reduceCtorEq] at hn
     case slice sb l' c' =>
      cases sb with
      | none=>simp [nilEq] at hn
      | some bd =>
        simp [nilEq] at hn
        subst hn
        obtain ⟨xx,cc,e,_⟩:=SlR.some hwy
        have e0:a.eval x = .slice none l c:=hwx
        have he:∀ w,(Op.equal t (.slice none l c) (.slice (some xx) l' cc)).run E.P w = .ok false w:=fun w=>eq_slice_l g2 9999 _ _ _ _ _ w
        refine ⟨_,_,e0,e,he,fun op'=>by cases op'<;>rfl,(bin_of_equal rfl rfl he).1,(bin_of_equal rfl rfl he).2⟩
   | some ad =>
     cases q<;>simp only [nilEq,reduceCtorEq] at hn
     case slice sb l' c' =>
      cases sb with
      | some bd=>simp [nilEq] at hn
      | none =>
        simp [nilEq] at hn
        subst hn
        obtain ⟨xx,cc,e,_⟩:=SlR.some hwx
        have e0:a.eval y = .slice none l' c':=hwy
        have he:∀ w,(Op.equal t (.slice (some xx) l cc) (.slice none l' c')).run E.P w = .ok false w:=fun w=>eq_slice_r g2 9999 _ _ _ _ _ w
        refine ⟨_,_,e,e0,he,fun op'=>by cases op'<;>rfl,(bin_of_equal rfl rfl he).1,(bin_of_equal rfl rfl he).2⟩
  case pointer sa =>
   have hd:=kind_pointer (Nat.eq_of_beq_eq_true hk)
   rw [hd] at g2
   cases sa with
   | none =>
     cases q<;>simp only [nilEq,reduceCtorEq] at hn
     case pointer sb =>
      cases sb with
      | none=>simp [nilEq] at hn
      | some bd =>
        simp [nilEq] at hn
        subst hn
        obtain ⟨_,xx,_,e⟩:=hwy
        have e0:a.eval x = .pointer none:=hwx
        have he:∀ w,(Op.equal t (.pointer none) (.pointer (some ⟨xx.1,xx.2.1+bd.off,none⟩))).run E.P w = .ok false w:=fun w=>eq_ptr_l g2 9999 _ w
        refine ⟨_,_,e0,e,he,fun op'=>by cases op'<;>rfl,(bin_of_equal rfl rfl he).1,(bin_of_equal rfl rfl he).2⟩
   | some ad =>
     cases q<;>simp only [nilEq,reduceCtorEq] at hn
     case pointer sb =>
      cases sb with
      | some bd=>simp [nilEq] at hn
      | none =>
        simp [nilEq] at hn
        subst hn
        obtain ⟨_,xx,_,e⟩:=hwx
        have e0:a.eval y = .pointer none:=hwy
        have he:∀ w,(Op.equal t (.pointer (some ⟨xx.1,xx.2.1+ad.off,none⟩)) (.pointer none)).run E.P w = .ok false w:=fun w=>eq_ptr_r g2 9999 _ w
        refine ⟨_,_,e,e0,he,fun op'=>by cases op'<;>rfl,(bin_of_equal rfl rfl he).1,(bin_of_equal rfl rfl he).2⟩
  case func fn f1 f2 =>
   obtain ⟨da,db,dc,hd⟩:=kind_func (Nat.eq_of_beq_eq_true hk)
   rw [hd] at g2
   cases q<;>simp only [nilEq,reduceCtorEq,Option.some.injEq] at hn
   subst hn
   obtain ⟨fn',fa,fb,e⟩:=W_func hwx
   have e0:a.eval y = .nilFunc:=hwy
   have he:∀ w,(Op.equal t (.func fn' fa fb) .nilFunc).run E.P w = .ok false w:=fun w=>eq_func_r g2 9999 _ _ _ w
   refine ⟨_,_,e,e0,he,fun op'=>by cases op'<;>rfl,(bin_of_equal rfl rfl he).1,(bin_of_equal rfl rfl he).2⟩
  case nilFunc =>
   obtain ⟨da,db,dc,hd⟩:=kind_func (Nat.eq_of_beq_eq_true hk)
   rw [hd] at g2
   cases q<;>simp only [nilEq,reduceCtorEq,Option.some.injEq] at hn
   case func fn f1 f2 =>
   subst hn
   obtain ⟨fn',fa,fb,e⟩:=W_func hwy
   have e0:a.eval x = .nilFunc:=hwx
   have he:∀ w,(Op.equal t .nilFunc (.func fn' fa fb)).run E.P w = .ok false w:=fun w=>eq_func_l g2 9999 _ _ _ w
   refine ⟨_,_,e0,e,he,fun op'=>by cases op'<;>rfl,(bin_of_equal rfl rfl he).1,(bin_of_equal rfl rfl he).2⟩
 obtain ⟨p',q',e1,e2,k1,k2,k3,k4⟩:=key
 rcases hop with rfl | rfl
 .refine opOk_same hr (u:=.bool r) ?_ rfl
  simp [execOp,ho,e1,e2,k2,k3]
 .refine opOk_same hr (u:=.bool (!r)) ?_ rfl
  simp [execOp,ho,e1,e2,k2,k4]
def OptN (ov:Option Value) (d l:Nat):Prop:=(ov=none/\l=d)\/∃ k n,ov=some (.int k n)/\0<=n/\l=Int.toNat n
theorem opt_nat {θ:Th} {T:Tm} {a:Act} {lo:Option Operand} {lov:Option Value} {d l:Nat} (ht:∀ y,lo=some y->∀ v,opv T y=some v->W θ v (a.eval y)) (h1:optv (opv T) lo=some lov) (h2:natOf d lov=some l):OptN (lo.map a.eval) d l:=by
 cases lo with
 | none =>
   simp only [optv,Option.some.injEq] at h1
   subst h1
   simp only [natOf,Option.some.injEq] at h2
   exact .inl ⟨rfl,h2.symm⟩
 | some x =>
   simp only [optv] at h1
   split at h1
   .rename_i u hu
    cases h1
    cases u<;>simp only [natOf,reduceCtorEq] at h2
    case int k n =>
     cases hb:decide (0<=n)<;>simp only [hb,cond_true,cond_false,reduceCtorEq,Option.some.injEq] at h2
     have hw:a.eval x = .int k n:=ht x rfl _ hu
     exact .inr ⟨k,n,by simp [hw],of_decide_eq_true hb,h2.symm⟩
   .cases h1
theorem run_sliceBound {P:Program} {w:World} {k:IntKind} {n:Int} {y:Nat} {code:BoundsCode} (h0:0<=n) (h1:n.toNat<=y):(Instr.sliceBound (.int k n) y code).run P w = .ok n.toNat w:=by
 have:n<=(y:Int):=by omega
 simp [Instr.sliceBound,asIntOf,h0,this]
theorem run_slice2 {P:Program} {w:World} {t e:TypeId} {i:TypeInfo} (hu:P.underlying t=some (.slice e)) (hi:P.info? e=some i) {sa:Option Addr} {len cap l u:Nat} {low high:Option Value}
 (hl:OptN low 0 l) (hh:OptN high len u) (h1:l<=u) (h2:u<=cap) :
 (Instr.sliceAt t (.slice sa len cap) low high none).run P w = .ok (.slice (if cap=l then sa else sa.map (·.add (l*i.size))) (u-l) (cap-l)) w:=by
 rcases hl with ⟨rfl,rfl⟩ | ⟨k1,n1,rfl,g1,rfl⟩<;>rcases hh with ⟨rfl,rfl⟩ | ⟨k2,n2,rfl,g2,rfl⟩
 .simp [Instr.sliceAt,Instr.slice,Instr.sliceBounds,run_underlying hu,run_sizeOf hi]
 .simp [Instr.sliceAt,Instr.slice,Instr.sliceBounds,run_underlying hu,run_sizeOf hi,run_sliceBound g2 h2]
 .simp [Instr.sliceAt,Instr.slice,Instr.sliceBounds,run_underlying hu,run_sizeOf hi,run_sliceBound g1 h1]
 .simp [Instr.sliceAt,Instr.slice,Instr.sliceBounds,run_underlying hu,run_sizeOf hi,run_sliceBound g1 h1,run_sliceBound g2 h2]
theorem run_slice3 {P:Program} {w:World} {t e:TypeId} {i:TypeInfo} (hu:P.underlying t=some (.slice e)) (hi:P.info? e=some i) {sa:Option Addr} {len cap l:Nat} {low:Option Value} {k2 k3:IntKind} {n2 n3:Int}
 (hl:OptN low 0 l) (g2:0<=n2) (g3:0<=n3) (h1:l<=n2.toNat) (h2:n2.toNat<=n3.toNat) (h3:n3.toNat<=cap) :
 (Instr.sliceAt t (.slice sa len cap) low (some (.int k2 n2)) (some (.int k3 n3))).run P w = .ok (.slice (if n3.toNat=l then sa else sa.map (·.add (l*i.size))) (n2.toNat-l) (n3.toNat-l)) w:=by
 rcases hl with ⟨rfl,rfl⟩ | ⟨k1,n1,rfl,g1,rfl⟩
 .simp [Instr.sliceAt,Instr.slice,Instr.sliceBounds,run_underlying hu,run_sizeOf hi,run_sliceBound g2 h2,run_sliceBound g3 h3]
 .simp [Instr.sliceAt,Instr.slice,Instr.sliceBounds,run_underlying hu,run_sizeOf hi,run_sliceBound g1 h1,run_sliceBound g2 h2,run_sliceBound g3 h3]
theorem capLow_le [LG] {θ:Th} {h:Hp} {w:World} (hr:HR θ h w) {ad:Addr} {cap sz c c':Nat} {x:Nat × Nat × Nat} (hx:θ ad.block=some x) (hc:capLow h ad cap sz=some c) (hcap:capR x.2.2 cap c'):c<=c':=by
 unfold capLow at hc
 cases hb:Nat.blt cap unkU<;>simp only [hb,cond_true,cond_false] at hc
 .split at hc
  .cases hc
  .rename_i e he
   cases hq:(Nat.beq e.unk sz&&Nat.beq ad.off ((cap-unkU)*sz)&&Nat.ble 1 sz&&Nat.ble ad.off e.len)<;>simp only [hq,cond_true,cond_false,reduceCtorEq,Option.some.injEq] at hc
   simp only [Bool.and_eq_true] at hq
   have q1:e.unk=sz:=Nat.eq_of_beq_eq_true hq.1.1.1
   have q2:ad.off=(cap-unkU)*sz:=Nat.eq_of_beq_eq_true hq.1.1.2
   have q3:1<=sz:=Nat.le_of_ble_eq_true hq.1.2
   obtain ⟨y,hy⟩:∃ y,y=x:=⟨x,rfl⟩
   subst hy
   have r:=hr.ent _ _ _ he hx
   have hroom:=(r.room (by omega)).1
   rw [q1] at hroom
   rcases hcap with ⟨g,_⟩ | ⟨g,hcc⟩
   .have:Nat.blt cap unkU=true:=by unfold Nat.blt; exact Nat.ble_eq_true_of_le g
    rw [this] at hb; cases hb
   .generalize hs:cap-unkU=sub at q2 hcc
    subst hc
    rw [hcc]
    have h1:(e.len-ad.off)/sz<=(y.2.2*sz-sub*sz)/sz:=Nat.div_le_div_right (by omega)
    rw [<- Nat.sub_mul,Nat.mul_div_cancel _ q3] at h1
    exact h1
 .cases hc
  have hlt:cap<unkU:=by unfold Nat.blt at hb; exact Nat.le_of_ble_eq_true hb
  rcases hcap with ⟨_,rfl⟩ | ⟨g,_⟩
  .exact Nat.le_refl _
  .omega
theorem op_slice [LG] {E:Env} (hE:EnvT E) {o:Oper} {nm:Nat} {θ:Th} {h:Hp} {w:World} {a:Act} {T:Tm} {v:Value} (hr:HR θ h w) (ht:TO θ T a o) {t:TypeId} {x:Operand} {lo hi mx:Option Operand} {lov hiv mxv:Option Value} {sa:Option Addr} {len cap:Nat} {ti ei:TI}
 (ho:o.op = .slice t x lo hi mx) (hx:opv T x=some (.slice sa len cap)) (hti:tget E.tt t=some ti) (hei:tget E.tt ti.elem=some ei) (hk:ti.kind=1)
 (hlo:optv (opv T) lo=some lov) (hhi:optv (opv T) hi=some hiv) (hmx:optv (opv T) mx=some mxv) (hv:xslice h ei.size sa len cap lov hiv mxv=some v):OpOk E.P o nm θ h w a v h:=by
 obtain ⟨i,d,z,fl,g1,g2,g3,g4,g5,rfl⟩:=ti_spec (hE _ _ hti)
 obtain ⟨i2,d2,z2,fs2,m1,m2,m3,m4,m5,rfl⟩:=ti_spec (hE _ _ hei)
 simp only at hk hei m1 m2 hv
 rw [kind_slice hk] at g2
 have hwx:=ht _ (by simp [ho,Op.operands]) _ hx
 have hrun:∀ {u:Value},(Instr.sliceAt t (a.eval x) (lo.map a.eval) (hi.map a.eval) (mx.map a.eval)).run E.P w = .ok u w->(execOp a.eval o).run E.P w = .ok (.value u) w:=fun {u} hs=>by simp [execOp,ho,hs]
 unfold xslice at hv
 split at hv
 .
  have hmn:mx.map a.eval=none:=by
   cases mx with
   | none=>rfl
   | some m =>
     simp only [optv] at hmx
     split at hmx<;>cases hmx
  split at hv
  .rename_i l1 l2
   cases hv
   have e0:a.eval x = .slice none len cap:=hwx
   have n1:=opt_nat (fun y hy v=>ht y (by simp [ho,Op.operands,hy]) v) hlo l1
   have n2:=opt_nat (fun y hy v=>ht y (by simp [ho,Op.operands,hy]) v) hhi l2
   refine opOk_same hr (u:=.slice none 0 cap) (hrun ?_) rfl
   rw [e0,hmn,run_slice2 g2 m1 n1 n2 (Nat.le_refl _) (Nat.zero_le _)]
   simp
  .cases hv
 .rename_i b
  have hmn:mx.map a.eval=none:=by
   cases mx with
   | none=>rfl
   | some m =>
     simp only [optv] at hmx
     split at hmx<;>cases hmx
  cases hsn:b.spot.isNone with
  | false =>
    rw [hsn,cond_false] at hv
    split at hv
    .rename_i l1 l2
     cases hv
     have n1:=opt_nat (fun y hy v=>ht y (by simp [ho,Op.operands,hy]) v) hlo l1
     have n2:=opt_nat (fun y hy v=>ht y (by simp [ho,Op.operands,hy]) v) hhi l2
     have hne:b.spot≠none:=fun e=>by rw [e] at hsn; cases hsn
     rcases (show SlR θ b len cap (a.eval x) from hwx) with ⟨q,_⟩ | ⟨_,hl0,q2,ad,c',e0⟩
     .exact absurd q hne
     .subst hl0
      have hr2:=run_slice2 (P:=E.P) (w:=w) (cap:=c') g2 m1 (sa:=some ad) n1 n2 (Nat.le_refl 0) (Nat.zero_le _)
      refine opOk_same hr (hrun (by rw [e0,hmn]; exact hr2)) (.inr ⟨hne,rfl,q2,?_⟩)
      by_cases q:c'=0
      .exact ⟨_,_,by rw [if_pos q]⟩
      .exact ⟨_,_,by rw [if_neg q]; rfl⟩
    .cases hv
  | true =>
  rw [hsn,cond_true] at hv
  have hbs:b.spot=none:=by simpa using hsn
  obtain ⟨hs,xx,c',hxx,hcap,e0⟩:b.spot=none/\∃ xx c',θ b.block=some xx/\capR xx.2.2 cap c'/\a.eval x = .slice (some ⟨xx.1,xx.2.1+b.off,none⟩) len c':=SlR.here hwx hbs
  split at hv
  .rename_i l u c l1 l2 l3
   have n1:=opt_nat (fun y hy v=>ht y (by simp [ho,Op.operands,hy]) v) hlo l1
   have n2:=opt_nat (fun y hy v=>ht y (by simp [ho,Op.operands,hy]) v) hhi l2
   have hcl:=capLow_le hr hxx l3 hcap
   cases hq:(Nat.ble l u&&Nat.ble u c&&Nat.ble len c&&true)<;>simp only [hq,cond_true,cond_false,reduceCtorEq] at hv
   simp only [Bool.and_eq_true] at hq
   have q1:=Nat.le_of_ble_eq_true hq.1.1.1
   have q2:=Nat.le_of_ble_eq_true hq.1.1.2
   have hr2:=run_slice2 (P:=E.P) (w:=w) g2 m1 (sa:=some ⟨xx.1,xx.2.1+b.off,none⟩) n1 n2 q1 (Nat.le_trans q2 hcl)
   cases hlt:Nat.blt cap unkU<;>simp only [hlt,cond_true,cond_false] at hv
   .have hge:unkU<=cap:=by
     rcases Nat.lt_or_ge cap unkU with g | g
     .have:Nat.blt cap unkU=true:=by unfold Nat.blt; exact Nat.ble_eq_true_of_le g
      rw [this] at hlt; cases hlt
     .exact g
    rcases hcap with ⟨g,_⟩ | ⟨_,hcc⟩
    .omega
    cases hlc:Nat.blt l c<;>simp only [hlc,cond_true,cond_false] at hv
    .cases hl0:Nat.beq l 0<;>simp only [hl0,cond_true,cond_false,reduceCtorEq,Option.some.injEq] at hv
     .subst hv
      have hll:¬ l<c:=fun q=>by rw [show Nat.blt l c=true from Nat.ble_eq_true_of_le q] at hlc; cases hlc
      have hul:u-l=0:=by omega
      refine opOk_same hr (hrun (by rw [e0,hmn]; exact hr2)) (.inr ⟨by simp,rfl,Nat.le_refl _,?_⟩)
      rw [hul]
      by_cases q:c'=l
      .exact ⟨_,_,by rw [if_pos q]⟩
      .exact ⟨_,_,by rw [if_neg q]; rfl⟩
     have e1:l=0:=Nat.eq_of_beq_eq_true hl0
     subst hv; subst e1
     refine opOk_same hr (hrun (by rw [e0,hmn]; exact hr2)) ?_
     refine .inl ⟨hs,xx,c',hxx,.inr ⟨hge,hcc⟩,?_⟩
     simp [add_addr]
    .have hll:l<c:=by unfold Nat.blt at hlc; exact Nat.le_of_ble_eq_true hlc
     cases hv
     refine opOk_same hr (hrun (by rw [e0,hmn]; exact hr2)) ?_
     refine .inl ⟨rfl,xx,c'-l,hxx,.inr ⟨by omega,?_⟩,?_⟩
     .rw [hcc]
      have e3:cap+l-unkU=(cap-unkU)+l:=by omega
      rw [e3,Nat.sub_add_eq]
     .rw [if_neg (by omega)]
      simp [add_addr,Nat.add_assoc]
   .have hlt':cap<unkU:=by unfold Nat.blt at hlt; exact Nat.le_of_ble_eq_true hlt
    rcases hcap with ⟨_,hcc⟩ | ⟨g,_⟩
    .subst hcc
     cases hv
     refine opOk_same hr (hrun (by rw [e0,hmn]; exact hr2)) ?_
     cases hcl':Nat.beq c' l
     .have hne:c'≠l:=fun e=>by rw [e] at hcl'; simp at hcl'
      refine .inl ⟨rfl,xx,c'-l,hxx,.inl ⟨by omega,rfl⟩,?_⟩
      rw [if_neg hne]
      simp [add_addr,Nat.add_assoc]
     .have he:c'=l:=Nat.eq_of_beq_eq_true hcl'
      refine .inl ⟨hs,xx,c'-l,hxx,.inl ⟨by omega,rfl⟩,?_⟩
      rw [if_pos he]; rfl
    .omega
  .cases hv
 .rename_i b m
  have hbs:b.spot=none:=by
   have hv:=hv
   split at hv
   .rename_i l u y c l1 l2 l3 l4
    cases hq:(Nat.ble l u&&Nat.ble u y&&Nat.ble y c&&Nat.blt cap unkU&&b.spot.isNone)<;>simp only [hq,cond_true,cond_false,reduceCtorEq] at hv
    simp only [Bool.and_eq_true] at hq
    simpa using hq.2
   .cases hv
  obtain ⟨hs,xx,c',hxx,hcap,e0⟩:b.spot=none/\∃ xx c',θ b.block=some xx/\capR xx.2.2 cap c'/\a.eval x = .slice (some ⟨xx.1,xx.2.1+b.off,none⟩) len c':=SlR.here hwx hbs
  split at hv
  .rename_i l u y c l1 l2 l3 l4
   have n1:=opt_nat (fun y hy v=>ht y (by simp [ho,Op.operands,hy]) v) hlo l1
   have hl2:hiv≠none/\natOf 0 hiv=some u:=by
    cases hiv with
    | none=>cases l2
    | some hvv=>exact ⟨by simp,l2⟩
   have n2:=opt_nat (fun y hy v=>ht y (by simp [ho,Op.operands,hy]) v) hhi hl2.2
   have n3:=opt_nat (fun y hy v=>ht y (by simp [ho,Op.operands,hy]) v) hmx l3
   have hcl:=capLow_le hr hxx l4 hcap
   cases hq:(Nat.ble l u&&Nat.ble u y&&Nat.ble y c&&Nat.blt cap unkU&&b.spot.isNone)<;>simp only [hq,cond_true,cond_false,reduceCtorEq] at hv
   simp only [Bool.and_eq_true] at hq
   have q1:=Nat.le_of_ble_eq_true hq.1.1.1.1
   have q2:=Nat.le_of_ble_eq_true hq.1.1.1.2
   have q3:=Nat.le_of_ble_eq_true hq.1.1.2
   have hlt':cap<unkU:=by have:=hq.1.2; unfold Nat.blt at this; exact Nat.le_of_ble_eq_true this
   rcases hcap with ⟨_,hcc⟩ | ⟨g,_⟩
   .subst hcc
    rcases n3 with ⟨e3,_⟩ | ⟨k3,j3,e3,p3,r3⟩
    .exfalso
     cases mx with
     | none=>simp [optv] at hmx
     | some mm=>simp at e3
    .rcases n2 with ⟨e2,r2⟩ | ⟨k2,j2,e2,p2,r2⟩
     .exfalso
      cases hi with
      | none=>simp only [optv,Option.some.injEq] at hhi; exact hl2.1 hhi.symm
      | some mm=>simp at e2
     .subst r3; subst r2
      have hr3:=run_slice3 (P:=E.P) (w:=w) g2 m1 (sa:=some ⟨xx.1,xx.2.1+b.off,none⟩) (len:=len) n1 p2 p3 q1 q2 (Nat.le_trans q3 hcl) (k2:=k2) (k3:=k3)
      cases hv
      refine opOk_same hr (hrun (by rw [e0,e2,e3]; exact hr3)) ?_
      cases hcl':Nat.beq j3.toNat l
      .have hne:j3.toNat≠l:=fun e=>by rw [e] at hcl'; simp at hcl'
       refine .inl ⟨rfl,xx,j3.toNat-l,hxx,.inl ⟨by omega,rfl⟩,?_⟩
       rw [if_neg hne]
       simp [add_addr,Nat.add_assoc]
      .have he:j3.toNat=l:=Nat.eq_of_beq_eq_true hcl'
       refine .inl ⟨hs,xx,j3.toNat-l,hxx,.inl ⟨by omega,rfl⟩,?_⟩
       rw [if_pos he]; rfl
   .omega
  .cases hv
 .cases hv
theorem HR.put_free [LG] {θ:Th} {h:Hp} {w:World} (hr:HR θ h w) {D:Nat} (o:Obj) (hD:∀ n e x,tget h.m n=some e->θ n=some x->x.1≠D):HR θ h (w.putObj D o):=by
 refine ⟨fun n e x he hx=>?_,hr.sep,hr.fresh⟩
 have r:=hr.ent n e x he hx
 have hk:(w.putObj D o).heap[x.1]? = w.heap[x.1]?:=World.putObj_heap_other (hD n e x he hx)
 refine ⟨r.at_,by rw [World.putObj_size]; exact r.lt,fun i v hv=>?_,fun q hq=>(by rw [hk]; exact r.ob q hq),fun hu=>?_⟩
 .rw [World.cell?_of_block (w:=w) hk,World.frozen?_of_block (w:=w) hk]; exact r.cell i v hv
 .obtain ⟨h1,h2⟩:=r.room hu
  refine ⟨h1,fun i hi=>?_⟩
  rw [World.cell?_of_block (w:=w) hk,World.frozen?_of_block (w:=w) hk]; exact h2 i hi
theorem Ext.put_free {nm:Nat} {θ θ':Th} {h h':Hp} {w w':World} (e:Ext nm θ h w θ' h' w') {D:Nat} (o:Obj) (hD:w.heap.size<=D):Ext nm θ h w θ' h' (w'.putObj D o) :=
 ⟨e.keep,e.only,e.nxt,by rw [World.putObj_size]; exact e.size,e.tape,e.os,e.output,fun b hb hno=>(World.putObj_heap_other (by omega)).trans (e.frame b hb hno),e.ownw,e.own⟩
theorem HR.alloc_free [LG] {θ:Th} {h:Hp} {w:World} (hr:HR θ h w) (o:Obj):HR θ h (w.alloc o):=by
 refine ⟨fun n e x he hx=>?_,hr.sep,hr.fresh⟩
 have r:=hr.ent n e x he hx
 have hk:(w.alloc o).heap[x.1]? = w.heap[x.1]?:=Below.heap_alloc _ _ _ r.lt
 refine ⟨r.at_,by have:=r.lt; simp; omega,fun i v hv=>?_,fun q hq=>(by rw [hk]; exact r.ob q hq),fun hu=>?_⟩
 .rw [World.cell?_of_block (w:=w) hk,World.frozen?_of_block (w:=w) hk]; exact r.cell i v hv
 .obtain ⟨h1,h2⟩:=r.room hu
  refine ⟨h1,fun i hi=>?_⟩
  rw [World.cell?_of_block (w:=w) hk,World.frozen?_of_block (w:=w) hk]; exact h2 i hi
theorem Ext.alloc_free (nm:Nat) (θ:Th) (h:Hp) (w:World) (o:Obj):Ext nm θ h w θ h (w.alloc o) :=
 ⟨fun _ _ e=>e,fun _ _ _=>rfl,Nat.le_refl _,by simp,rfl,rfl,rfl,fun b hb _=>Below.heap_alloc _ _ _ hb,fun n e x h1 hu h2=>.inr ⟨n,e,x,h1,hu,h2,rfl⟩,fun n e x h1 h2=>.inr ⟨n,e,x,h1,h2,rfl⟩⟩
theorem obj_sound [LG] {θ:Th} {h:Hp} {w:World} (hr:HR θ h w) {nm:Nat} (hnm:θ nm=none) {o:Ob} {q:Obj} (hq:ObR (fun n=>if n=nm then some (w.heap.size,0,0) else θ n) (some q) o) :
 HR (fun n=>if n=nm then some (w.heap.size,0,0) else θ n) (halloc h nm ⟨.nil,0,0,some o⟩) (w.alloc q)/\Ext nm θ h w (fun n=>if n=nm then some (w.heap.size,0,0) else θ n) (halloc h nm ⟨.nil,0,0,some o⟩) (w.alloc q):=by
 have hkeep:∀ n x,θ n=some x->(fun n=>if n=nm then some (w.heap.size,0,0) else θ n) n=some x:=by
  intro n x hx
  have:n≠nm:=fun e=>by subst e; rw [hnm] at hx; cases hx
  simp only [if_neg this,hx]
 have hr1:=hr.alloc_free q
 refine ⟨⟨?_,?_,?_⟩,hkeep,?_,?_,by simp,rfl,rfl,rfl,fun b hb _=>Below.heap_alloc _ _ _ hb,?_,?_⟩
 .intro n e x hn hx
  simp only [halloc,tget_tset] at hn
  by_cases hb:nm=n
  .subst hb
   rw [if_pos rfl] at hn
   cases hn
   simp only [if_true,Option.some.injEq] at hx
   subst hx
   refine ⟨by simp,by simp,fun i v hi=>(by cases hi),fun o ho=>?_,fun hu=>absurd rfl hu⟩
   cases ho
   have:=hq
   rw [<- World.alloc_heap_new w q] at this
   exact this
  .rw [if_neg hb] at hn
   simp only [if_neg (Ne.symm hb)] at hx
   have q:=hr1.ent _ _ _ hn hx
   exact ⟨hkeep _ _ q.at_,q.lt,fun i v hi=>let ⟨⟨u,k1,k2⟩,k3⟩:=q.cell i v hi; ⟨⟨u,k1,S_mono hkeep k2⟩,k3⟩,fun o ho=>ObR_mono hkeep (q.ob o ho),q.room⟩
 .intro n m e e' x y h1 h2 hne t1 t2
  simp only [halloc,tget_tset] at h1 h2
  by_cases hn:nm=n
  .subst hn
   simp only [if_true] at t1
   rw [if_neg hne] at h2
   simp only [if_neg (Ne.symm hne)] at t2
   have:=(hr.ent _ _ _ h2 t2).lt
   cases t1
   simp only; omega
  .rw [if_neg hn] at h1
   simp only [if_neg (Ne.symm hn)] at t1
   by_cases hm:nm=m
   .subst hm
    simp only [if_true] at t2
    have:=(hr.ent _ _ _ h1 t1).lt
    cases t2
    simp only; omega
   .rw [if_neg hm] at h2
    simp only [if_neg (Ne.symm hm)] at t2
    exact hr.sep n m e e' x y h1 h2 hne t1 t2
 .intro n hn
  simp only [halloc] at hn
  have h1:n≠nm:=by omega
  simp only [if_neg h1]
  exact hr.fresh n (by omega)
 .intro n _ hne
  simp only [if_neg hne]
 .simp only [halloc]; omega
 .intro n e x h1 hu h2
  simp only [halloc,tget_tset] at h1
  by_cases hb:nm=n
  .subst hb
   simp only [if_true] at h2
   cases h2
   exact .inl (Nat.le_refl _)
  .rw [if_neg hb] at h1
   simp only [if_neg (Ne.symm hb)] at h2
   exact .inr ⟨n,e,x,h1,hu,h2,rfl⟩
 .intro n e x h1 h2
  simp only [halloc,tget_tset] at h1
  by_cases hb:nm=n
  .subst hb
   simp only [if_true] at h2
   cases h2
   exact .inl (Nat.le_refl _)
  .rw [if_neg hb] at h1
   simp only [if_neg (Ne.symm hb)] at h2
   exact .inr ⟨n,e,x,h1,h2,rfl⟩
theorem isBld0_eq {l:List Value} (h:isBld0 l=true):l=[.pointer none,.slice none 0 0]:=by
 unfold isBld0 at h
 split at h
 .rfl
 .cases h
theorem op_allocB [LG] {E:Env} (hE:EnvT E) {o:Oper} {nm:Nat} {θ:Th} {h:Hp} {w:World} {a:Act} (hr:HR θ h w) {t:TypeId} {ti:TI} {e:Nat} (hnm:θ nm=none) (ho:o.op = .alloc t) (hti:tget E.tt t=some ti) (hz:isBld0 ti.zero=true) :
 OpOk E.P o nm θ h w a (newPtr nm) (halloc h nm (obE (.bld t e nm none))):=by
 obtain ⟨i,d,z,fl,h1,h2,h3,h4,h5,rfl⟩:=ti_spec (hE _ _ hti)
 have hz:z.cells.toList=[.pointer none,.slice none 0 0]:=isBld0_eq hz
 have hzc:z.cells = #[.pointer none,.slice none 0 0]:=Array.toList_inj.1 hz
 obtain ⟨g1,g2⟩:=obj_sound hr hnm (o:=.bld t e nm none) (q:=.cells #[.pointer none,.slice none 0 0] t (0,0))
  (BldR.mk ⟨(w.heap.size,0,0),.pointer none,.slice none 0 0,by simp,rfl,rfl,.inl rfl,.inl ⟨rfl,rfl⟩⟩)
 refine ⟨_,_,.pointer (some ⟨w.heap.size,0,none⟩),_,?_,.inl rfl,g2,g1,?_⟩
 .simp [execOp,ho,Instr.alloc,run_zeroValue h1 h3,newVar,newRow,hzc]
 .exact ⟨rfl,(w.heap.size,0,0),by simp,rfl⟩
theorem objSet_sound [LG] {θ:Th} {h:Hp} {w:World} (hr:HR θ h w) {l:Nat} {e:Ent} {x:Nat × Nat × Nat} (he:tget h.m l=some e) (hro:e.unk≠roU) (hx:θ l=some x) {o:Ob} {q:Obj} (hq:ObR θ (some q) o) :
 HR θ ⟨tset h.m l (some ⟨.nil,0,0,some o⟩),h.nxt⟩ (w.putObj x.1 q)/\∀ nm,Ext nm θ h w θ ⟨tset h.m l (some ⟨.nil,0,0,some o⟩),h.nxt⟩ (w.putObj x.1 q):=by
 have re:=hr.ent l e x he hx
 have lift:∀ k ek,tget (tset h.m l (some ⟨.nil,0,0,some o⟩)) k=some ek->∃ ek',tget h.m k=some ek':=by
  intro k ek hk
  rw [tget_tset] at hk
  split at hk
  .rename_i q; subst q; exact ⟨e,he⟩
  .exact ⟨ek,hk⟩
 refine ⟨⟨fun n en y hn hy=>?_,fun n m e1 e2 y z h1 h2 hne t1 t2=>?_,hr.fresh⟩,fun nm=>⟨fun _ _ q=>q,fun _ _ _=>rfl,Nat.le_refl _,by rw [World.putObj_size]; exact Nat.le_refl _,rfl,rfl,rfl,fun b hb hno=>?_,fun n en y hn hu hy=>?_,fun n en y hn hy=>?_⟩⟩
 .simp only [tget_tset] at hn
  by_cases hne:l=n
  .subst hne
   rw [if_pos rfl] at hn
   cases hn
   have hxy:x=y:=by rw [hx] at hy; exact Option.some.inj hy
   subst hxy
   refine ⟨hx,by rw [World.putObj_size]; exact re.lt,fun i v hi=>(by cases hi),fun o ho'=>?_,fun hu=>absurd rfl hu⟩
   cases ho'
   rw [World.putObj_heap_same re.lt]
   exact hq
  .rw [if_neg hne] at hn
   have rz:=hr.ent _ _ _ hn hy
   have hsep:=hr.sep _ _ _ _ _ _ hn he (Ne.symm hne) hy hx
   have hk:(w.putObj x.1 q).heap[y.1]? = w.heap[y.1]?:=World.putObj_heap_other hsep
   refine ⟨rz.at_,by rw [World.putObj_size]; exact rz.lt,fun i v hv=>?_,fun q hq=>(by rw [hk]; exact rz.ob q hq),fun hu=>?_⟩
   .rw [World.cell?_of_block (w:=w) hk,World.frozen?_of_block (w:=w) hk]; exact rz.cell i v hv
   .obtain ⟨h1,h2⟩:=rz.room hu
    refine ⟨h1,fun i hi=>?_⟩
    rw [World.cell?_of_block (w:=w) hk,World.frozen?_of_block (w:=w) hk]; exact h2 i hi
 .obtain ⟨e1',h1'⟩:=lift n e1 h1
  obtain ⟨e2',h2'⟩:=lift m e2 h2
  exact hr.sep n m e1' e2' y z h1' h2' hne t1 t2
 .exact World.putObj_heap_other fun q=>hno l e x he hro hx q.symm
 .simp only [tget_tset] at hn
  split at hn
  .rename_i q; subst q; exact .inr ⟨_,_,_,he,hro,hy,rfl⟩
  .exact .inr ⟨_,_,_,hn,hu,hy,rfl⟩
 .simp only [tget_tset] at hn
  split at hn
  .rename_i q; subst q; exact .inr ⟨_,_,_,he,hy,rfl⟩
  .exact .inr ⟨_,_,_,hn,hy,rfl⟩
def FR (θ:Th):Option (Nat × Value)->Option (Nat × Value)->Prop
 | none,none=>True
 | some p,some q=>p.1=q.1/\V θ p.2 q.2
 | _,_=>False
theorem same_now {P:Program} {kt:TypeId} {d:TypeDesc} (hd:P.underlying kt=some d) {x y:Value} {b b':Bool} (h1:Instr.sameNow d x y=some b) (h2:srun P (Op.equal kt x y)=some b') (w:World):b=b':=by
 have hr:=srun_sound h2 w
 have hq:(Op.equal kt x y).run P w = .ok b w:=by
  unfold Op.equal Op.maxDepth
  unfold Instr.sameNow at h1
  split at h1
  .rename_i k a k' b0
   split at h1
   .rename_i hk
    cases h1
    rw [show (10000:Nat)=9999+1 from rfl,Op.equalIn]
    simp [run_underlying hd,hk]
   .cases h1
  .cases h1
   rw [show (10000:Nat)=9999+1 from rfl,Op.equalIn]
   simp [run_underlying hd]
  .cases h1
   rw [show (10000:Nat)=9999+1 from rfl,Op.equalIn]
   simp [run_underlying hd]
  .cases h1
 rw [hr] at hq
 cases hq
 rfl
theorem find_now {P:Program} {θ:Th} {kt:TypeId} {d:TypeDesc} (hd:P.underlying kt=some d) {k:Value} (w:World):∀ {es:List (Value × Value)} {l:List MapEntry} {i:Nat} {r r2:Option (Nat × Value)},MpR θ es l->kFind P kt k es i=some r->Instr.findNow d k l i=some r2->FR θ r r2
 | [],[],i,r,r2,_,h1,h2=>by cases h1; cases h2; trivial
 | (k',v) :: es,e :: l,i,r,r2,hm,h1,h2=>by
  obtain ⟨⟨q1,q2⟩,q3⟩:=hm
  simp only [kFind] at h1
  simp only [Instr.findNow] at h2
  split at h1
  .rename_i hs
   split at h2
   .cases h1; cases h2; exact ⟨rfl,q2⟩
   .rename_i hn
    rw [q1] at hn
    have:=same_now hd hn hs w
    cases this
   .cases h2
  .rename_i hs
   split at h2
   .rename_i hn
    rw [q1] at hn
    have:=same_now hd hn hs w
    cases this
   .exact find_now hd w q3 h1 h2
   .cases h2
  .cases h1
 | [],_ :: _,_,_,_,h,_,_=>h.elim
 | _ :: _,[],_,_,_,h,_,_=>h.elim
theorem find_ask {P:Program} {θ:Th} {kt:TypeId} {k:Value} (w:World):∀ {es:List (Value × Value)} {l:List MapEntry} {i:Nat} {r:Option (Nat × Value)},MpR θ es l->kFind P kt k es i=some r->∃ r2,(Instr.findAsking kt k l i).run P w = .ok r2 w/\FR θ r r2
 | [],[],i,r,_,h1=>by cases h1; exact ⟨none,rfl,trivial⟩
 | (k',v) :: es,e :: l,i,r,hm,h1=>by
  obtain ⟨⟨q1,q2⟩,q3⟩:=hm
  simp only [kFind] at h1
  split at h1
  .rename_i hs
   cases h1
   refine ⟨some (i,e.val),?_,rfl,q2⟩
   simp [Instr.findAsking,q1,srun_sound hs w]
  .rename_i hs
   obtain ⟨r2,h3,h4⟩:=find_ask w q3 h1
   refine ⟨r2,?_,h4⟩
   simp [Instr.findAsking,q1,srun_sound hs w,h3]
  .cases h1
 | [],_ :: _,_,_,h,_=>h.elim
 | _ :: _,[],_,_,h,_=>h.elim
theorem find_key {P:Program} {θ:Th} {kt:TypeId} {d:TypeDesc} (hd:P.underlying kt=some d) {k:Value} (w:World) {es:List (Value × Value)} {l:List MapEntry} {r:Option (Nat × Value)} (hm:MpR θ es l) (h1:kFind P kt k es 0=some r) :
 ∃ r2,(Instr.findKey kt k l).run P w = .ok r2 w/\FR θ r r2:=by
 cases hn:Instr.findNow d k l 0 with
 | none =>
   obtain ⟨r2,h3,h4⟩:=find_ask w hm h1
   exact ⟨r2,by simp [Instr.findKey,run_underlying hd,hn,h3],h4⟩
 | some r2=>exact ⟨r2,by simp [Instr.findKey,run_underlying hd,hn],find_now hd w hm h1 hn⟩
theorem kind_map {d:TypeDesc} (h:(kindOf d).1=10):d = .map (kindOf d).2.2 (kindOf d).2.1:=by
 unfold kindOf at h ⊢; split<;>simp_all
theorem getMp_spec {h:Hp} {n:Nat} {es:List (Value × Value)} (hg:getMp h n=some es):∃ e,tget h.m n=some e/\e.ob=some (.mp es)/\e.unk≠roU:=by
 unfold getMp at hg
 split at hg
 .rename_i e he
  cases hu0:Nat.beq e.unk 0<;>simp only [hu0,cond_true,cond_false,reduceCtorEq] at hg
  have hro:e.unk≠roU:=by rw [Nat.eq_of_beq_eq_true hu0]; unfold roU; omega
  split at hg
  .rename_i L' ho
   cases hg
   exact ⟨e,he,ho,hro⟩
  .cases hg
 .cases hg
theorem op_makeMap [LG] {E:Env} (hE:EnvT E) {o:Oper} {nm:Nat} {θ:Th} {h:Hp} {w:World} {a:Act} (hr:HR θ h w) {t:TypeId} (hnm:θ nm=none) (ho:o.op = .makeMap t none):OpOk E.P o nm θ h w a (.map (some nm)) (halloc h nm ⟨.nil,0,0,some (.mp [])⟩):=by
 obtain ⟨g1,g2⟩:=obj_sound hr hnm (o:=.mp []) (q:=.map #[] 0) ⟨_,_,rfl,trivial⟩
 refine ⟨_,_,.map (some w.heap.size),_,?_,.inl rfl,g2,g1,?_⟩
 .simp [execOp,ho,Instr.makeMap]
 .exact ⟨(w.heap.size,0,0),by simp,rfl⟩
theorem key_good {P:Program} {emp:Bool} {kt:TypeId} {k:Value} (h:keyGood P emp kt k=true) (w:World):plainA k=true/\(Instr.checkKey emp 10000 kt k).run P w = .ok () w:=by
 unfold keyGood at h
 rw [Bool.and_eq_true] at h
 refine ⟨h.1,?_⟩
 have h2:=h.2
 split at h2
 .rename_i u hs
  exact srun_sound hs w
 .cases h2
theorem V_of_W {θ:Th} {u v:Value} (hn:isTup u=false) (h:W θ u v):V θ u v:=by
 cases u<;>first | exact h | cases hn
theorem V_plainA {θ:Th} {z:Value} (h:plainA z=true):V θ z z:=by
 cases z with
 | agg cs=>exact ⟨cs.toList,by simp,plain_all2 h⟩
 | _=>exact V_of_S (S_plain h)
theorem luRes_W {θ:Th} {v u:Value} {ok b:Bool} (h:V θ v u):W θ (luRes ok v b) (if ok then .tuple #[u,.bool b] else u):=by
 cases ok
 .exact W_of_V h
 .exact ⟨[u,.bool b],rfl,h,rfl,trivial⟩
theorem op_lookM [LG] {E:Env} (hE:EnvT E) {o:Oper} {nm:Nat} {θ:Th} {h h':Hp} {w:World} {a:Act} {T:Tm} {v:Value} (hr:HR θ h w) (ht:TO θ T a o) {t:TypeId} {x ix:Operand} {ok:Bool} {mt:TI} {es:List (Value × Value)} {k:Value} {l:Array MapEntry} {m:Value} (ho:o.op = .lookup t x ix ok)
 (hti:tget E.tt t=some mt) (hk:mt.kind=10) (hix:opv T ix=some k) (hm:MpR θ es l.toList)
 (hes:(a.eval x = .map none/\l = #[])\/∃ r c,a.eval x = .map (some r)/\(getObj r).run E.P w = .ok (.map l c) w) (hx:xLookM E h mt es k ok=some (v,h')):OpOk E.P o nm θ h w a v h':=by
 obtain ⟨i,d,z,fl,h1,h2,h3,h4,h5,rfl⟩:=ti_spec (hE _ _ hti)
 simp only at hk
 rw [kind_map hk] at h2
 unfold xLookM at hx
 cases hg:keyGood E.P es.isEmpty (kindOf d).2.2 k<;>simp only [hg,cond_true,cond_false,reduceCtorEq] at hx
 obtain ⟨p1,p2⟩:=key_good hg w
 have hkey:a.eval ix=k:=plainA_eq p1 (ht _ (by simp [ho,Op.operands]) _ hix)
 have hemp:l.isEmpty=es.isEmpty:=by
  have:=all2_len hm
  rw [Bool.eq_iff_iff,Array.isEmpty_iff_size_eq_zero,List.isEmpty_iff_length_eq_zero,this]
  simp
 have hu:∃ d',E.P.underlying (kindOf d).2.2=some d':=by
  have:=p2
  cases hq:E.P.underlying (kindOf d).2.2 with
  | some d'=>exact ⟨d',rfl⟩
  | none =>
    exfalso
    rw [show (10000:Nat)=9999+1 from rfl,Instr.checkKey] at this
    simp [underlying,hq,stuck] at this
 obtain ⟨d',hd'⟩:=hu
 have main:∀ r2 u b,(Instr.findKey (kindOf d).2.2 k l.toList).run E.P w = .ok r2 w->((∃ j,r2=some (j,u)/\b=true)\/(r2=none/\b=false/\(zeroValue (kindOf d).2.1).run E.P w = .ok u w))->(execOp a.eval o).run E.P w = .ok (.value (if ok then .tuple #[u,.bool b] else u)) w:=by
  intro r2 u b e1 e2
  have e0:(Instr.lookup t (a.eval x) (a.eval ix) ok).run E.P w = .ok (if ok then .tuple #[u,.bool b] else u) w:=by
   unfold Instr.lookup
   rw [<- hemp] at p2
   rcases hes with ⟨g1,g2⟩ | ⟨r,c,g1,g2⟩
   .subst g2
    have p2:(Instr.checkKey true 10000 (kindOf d).2.2 k).run E.P w = .ok () w:=p2
    have e1:(Instr.findKey (kindOf d).2.2 k []).run E.P w = .ok r2 w:=e1
    rcases e2 with ⟨j,rfl,rfl⟩ | ⟨rfl,rfl,e3⟩
    .simp [run_underlying h2,g1,hkey,p2,e1]
    .simp [run_underlying h2,g1,hkey,p2,e1,e3]
   .rcases e2 with ⟨j,rfl,rfl⟩ | ⟨rfl,rfl,e3⟩
    .simp [run_underlying h2,g1,g2,hkey,p2,e1]
    .simp [run_underlying h2,g1,g2,hkey,p2,e1,e3]
  simp [execOp,ho,e0]
 split at hx
 .rename_i j u hf
  cases hq:isTup u<;>simp only [hq,cond_true,cond_false,reduceCtorEq] at hx
  cases hx
  obtain ⟨r2,q1,q2⟩:=find_key hd' w hm hf
  cases r2 with
  | none=>exact q2.elim
  | some p=>exact opOk_same hr (main _ p.2 true q1 (.inl ⟨p.1,rfl,rfl⟩)) (luRes_W q2.2)
 .rename_i hf
  split at hx
  .rename_i z' hz
   cases hq:plainA z'<;>simp only [hq,cond_true,cond_false,reduceCtorEq] at hx
   cases hx
   obtain ⟨r2,q1,q2⟩:=find_key hd' w hm hf
   cases r2 with
   | some p=>exact q2.elim
   | none=>exact opOk_same hr (main _ z' false q1 (.inr ⟨rfl,rfl,srun_sound hz w⟩)) (luRes_W (V_plainA hq))
  .cases hx
 .cases hx
theorem op_lookup [LG] {E:Env} (hE:EnvT E) {o:Oper} {nm:Nat} {θ:Th} {h h':Hp} {w:World} {a:Act} {T:Tm} {v:Value} (hr:HR θ h w) (ht:TO θ T a o) {t:TypeId} {x ix:Operand} {ok:Bool} (ho:o.op = .lookup t x ix ok)
 (hx:xLook E (opv T) h t x ix ok=some (v,h')):OpOk E.P o nm θ h w a v h':=by
 unfold xLook at hx
 split at hx
 .rename_i k hm hk
  obtain ⟨mt,k1,k2⟩:=ob_some hx
  cases hq:Nat.beq mt.kind 10<;>simp only [hq,cond_true,cond_false,reduceCtorEq] at k2
  have e:a.eval x = .map none:=ht _ (by simp [ho,Op.operands]) _ hm
  exact op_lookM hE hr ht ho k1 (Nat.eq_of_beq_eq_true hq) hk (es:=[]) (l:=#[]) (m:=.map none) trivial (.inl ⟨e,rfl⟩) k2
 .rename_i n k hm hk
  obtain ⟨mt,k1,k2⟩:=ob_some hx
  cases hq:Nat.beq mt.kind 10<;>simp only [hq,cond_true,cond_false,reduceCtorEq] at k2
  obtain ⟨es,k3,k4⟩:=ob_some k2
  obtain ⟨x',hx',e⟩:∃ x',θ n=some x'/\a.eval x = .map (some x'.1):=ht _ (by simp [ho,Op.operands]) _ hm
  obtain ⟨ent,g1,g2,g3⟩:=getMp_spec k3
  obtain ⟨l,c,j1,j2⟩:=(hr.ent _ _ _ g1 hx').ob _ g2
  exact op_lookM hE hr ht ho k1 (Nat.eq_of_beq_eq_true hq) hk (l:=l) (m:=.map none) j2 (.inr ⟨_,c,e,by simp [getObj,Sem.run,j1]⟩) k4
 .cases hx
theorem MpR.set {θ:Th} {k v u:Value} (hv:V θ v u):∀ {es:List (Value × Value)} {l:List MapEntry} (i:Nat),MpR θ es l->MpR θ (es.set i (k,v)) (l.modify i fun e=>{ e with key:=k,val:=u })
 | [],[],i,_=>by cases i<;>exact trivial
 | p :: es,e :: l,0,h=>⟨⟨rfl,hv⟩,h.2⟩
 | p :: es,e :: l,i+1,h=>⟨h.1,MpR.set hv i h.2⟩
 | [],_ :: _,_,h=>h.elim
 | _ :: _,[],_,h=>h.elim
theorem op_mapUpdate [LG] {E:Env} (hE:EnvT E) {o:Oper} {nm:Nat} {θ:Th} {h h':Hp} {w:World} {a:Act} {T:Tm} {r:Value} (hr:HR θ h w) (ht:TO θ T a o) {t:TypeId} {m k x:Operand} (ho:o.op = .mapUpdate t m k x)
 (hx:xUpd E (opv T) h t m k x=some (r,h')):OpOk E.P o nm θ h w a r h':=by
 unfold xUpd at hx
 split at hx
 .rename_i n kv v hm hk hv
  obtain ⟨mt,k1,k2⟩:=ob_some hx
  cases hq:(Nat.beq mt.kind 10&&!(isTup v)&&keyGood E.P false mt.alen kv)<;>simp only [hq,cond_true,cond_false,reduceCtorEq] at k2
  simp only [Bool.and_eq_true,Bool.not_eq_true'] at hq
  obtain ⟨⟨hq1,hq2⟩,hq3⟩:=hq
  obtain ⟨es,k3,k4⟩:=ob_some k2
  obtain ⟨x',hx',e⟩:∃ x',θ n=some x'/\a.eval m = .map (some x'.1):=ht _ (by simp [ho,Op.operands]) _ hm
  obtain ⟨ent,g1,g2,g3⟩:=getMp_spec k3
  obtain ⟨l,c,j1,j2⟩:=(hr.ent _ _ _ g1 hx').ob _ g2
  obtain ⟨i,d,z,fl,h1,h2,h3,h4,h5,rfl⟩:=ti_spec (hE _ _ k1)
  simp only at hq3 k4
  rw [kind_map (Nat.eq_of_beq_eq_true hq1)] at h2
  obtain ⟨p1,p2⟩:=key_good hq3 w
  have hkey:a.eval k=kv:=plainA_eq p1 (ht _ (by simp [ho,Op.operands]) _ hk)
  have hval:V θ v (a.eval x):=V_of_W hq2 (ht _ (by simp [ho,Op.operands]) _ hv)
  have hu:∃ d',E.P.underlying (kindOf d).2.2=some d':=by
   have:=p2
   cases hq:E.P.underlying (kindOf d).2.2 with
   | some d'=>exact ⟨d',rfl⟩
   | none =>
     exfalso
     rw [show (10000:Nat)=9999+1 from rfl,Instr.checkKey] at this
     simp [underlying,hq,stuck] at this
  obtain ⟨d',hd'⟩:=hu
  have hset:∀ q,(setObj x'.1 q).run E.P w = .ok () (w.putObj x'.1 q):=fun q=>by simp [setObj,Sem.run,j1,World.putObj]
  have hget:(getObj x'.1).run E.P w = .ok (.map l c) w:=by simp [getObj,Sem.run,j1]
  split at k4
  .rename_i hf
   cases k4
   obtain ⟨r2,q1,q2⟩:=find_key hd' w j2 hf
   cases r2 with
   | some p=>exact q2.elim
   | none =>
     have hob:ObR θ (some (.map (l.push { key:=kv,val:=a.eval x,born:=c }) (c+1))) (.mp (es++[(kv,v)])):=⟨_,_,rfl,by
      rw [Array.toList_push]
      exact all2_append j2 ⟨⟨rfl,hval⟩,trivial⟩⟩
     obtain ⟨s1,s2⟩:=objSet_sound hr g1 g3 hx' hob
     refine ⟨θ,_,undef,.skip,?_,.inr ⟨rfl,rfl⟩,s2 nm,s1,⟨[],rfl,trivial⟩⟩
     simp [execOp,ho,Instr.mapUpdate,run_underlying h2,e,hget,hkey,p2,q1,hset]
  .rename_i j vv hf
   split at k4
   .rename_i p hp
    cases hb:Instr.sameBits 10000 p.1 kv<;>simp only [hb,cond_true,cond_false,reduceCtorEq] at k4
    cases k4
    obtain ⟨r2,q1,q2⟩:=find_key hd' w j2 hf
    cases r2 with
    | none=>exact q2.elim
    | some p2' =>
      obtain ⟨jj,uu⟩:=p2'
      obtain ⟨q3,q4⟩:=q2
      simp only at q3
      subst q3
      obtain ⟨en,f1,f2,f3⟩:=all2_get j2 j p hp
      have hen:l[j]? = some en:=by simpa using f1
      have hob:ObR θ (some (.map (l.modify j fun e=>{ e with key:=kv,val:=a.eval x }) c)) (.mp (es.set j (kv,v))):=⟨_,_,rfl,by
       rw [Array.toList_modify]
       exact MpR.set hval j j2⟩
      obtain ⟨s1,s2⟩:=objSet_sound hr g1 g3 hx' hob
      refine ⟨θ,_,undef,.skip,?_,.inr ⟨rfl,rfl⟩,s2 nm,s1,⟨[],rfl,trivial⟩⟩
      have hst:(Instr.keyThatStays en.key kv).run E.P w = .ok kv w:=by
       unfold Instr.keyThatStays
       rw [f2,hb]
       rfl
      simp [execOp,ho,Instr.mapUpdate,run_underlying h2,e,hget,hkey,p2,q1,hset,hen,hst]
   .cases k4
  .cases k4
 .cases hx
end Go.Ev
