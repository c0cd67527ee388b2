import Derived.Test.YtfhjkkbaghanhaaGreatEvOps
import Derived.Laws.Append
import Derived.Laws.BytesString
set_option linter.unusedVariables false
set_option linter.unusedSimpArgs false
namespace Go.Ev
open Go.Deep Go.RowKit
def EnvT (E:Env):Prop:=∀ t ti,tget E.tt t=some ti→tiOf E.P t=some ti
theorem plain_all2 {θ:Th}:∀ {l:List Value},allPlain l=true→all2 (S θ) l l
 | [],_=>trivial
 | v :: l,h=>by
   simp only [allPlain,Bool.and_eq_true] at h
   exact ⟨S_plain h.1,plain_all2 h.2⟩
theorem kind_slice {d:TypeDesc} (h:(kindOf d).1=1):d = .slice (kindOf d).2.1:=by
 cases d<;>simp [kindOf] at h ⊢
 case int k=>cases k<;>simp [kindOf] at h
theorem kind_array {d:TypeDesc} (h:(kindOf d).1=2):d = .array (kindOf d).2.2 (kindOf d).2.1:=by
 cases d<;>simp [kindOf] at h ⊢
 case int k=>cases k<;>simp [kindOf] at h
theorem kind_struct {d:TypeDesc} (h:(kindOf d).1=3):∃ fs,d = .struct fs:=by
 cases d<;>simp [kindOf] at h ⊢
 case int k=>cases k<;>simp [kindOf] at h
theorem kind_string {d:TypeDesc} (h:(kindOf d).1=4):d = .string:=by
 cases d<;>simp [kindOf] at h ⊢
 case int k=>cases k<;>simp [kindOf] at h
theorem kind_int {d:TypeDesc} (h:(kindOf d).1=5):∃ k,d = .int k:=by
 cases d<;>simp [kindOf] at h ⊢
theorem kind_pointer {d:TypeDesc} (h:(kindOf d).1=7):d = .pointer (kindOf d).2.1:=by
 cases d<;>simp [kindOf] at h ⊢
 case int k=>cases k<;>simp [kindOf] at h
theorem kind_func {d:TypeDesc} (h:(kindOf d).1=8):∃ a b c,d = .func a b c:=by
 cases d<;>simp [kindOf] at h ⊢
 case int k=>cases k<;>simp [kindOf] at h
theorem run_typeInfo {P:Program} {t:TypeId} {i:TypeInfo} (h:P.info? t=some i) (w:World):(typeInfo t).run P w = .ok i w:=by simp [typeInfo,h]
theorem run_sizeOf {P:Program} {t:TypeId} {i:TypeInfo} (h:P.info? t=some i) (w:World):(sizeOf t).run P w = .ok i.size w:=by simp [sizeOf,run_typeInfo h]
theorem run_zeroValue {P:Program} {t:TypeId} {i:TypeInfo} {z:Value} (h:P.info? t=some i) (hz:i.zero=some z) (w:World):(zeroValue t).run P w = .ok z w:=by simp [zeroValue,run_typeInfo h,hz]
theorem run_isAgg {P:Program} {t:TypeId} {d:TypeDesc} (h:P.underlying t=some d) (w:World):(isAgg t).run P w = .ok (aggB d) w:=by
 cases d<;>simp [isAgg,run_underlying h,aggB]
theorem mapM_fields {P:Program}:∀ (l:List Field) (pl:List (Nat × Nat)),l.mapM (fun f=>(P.info? f.type).map fun i=>(f.offset,i.size))=some pl→∀ (k:Nat) (p:Nat × Nat),pl[k]? = some p→∃ (fd:Field) (i:TypeInfo),l[k]? = some fd∧P.info? fd.type=some i∧p=(fd.offset,i.size):=by
 intro l
 induction l with
 | nil=>intro pl hm k p hp; simp at hm; subst hm; simp at hp
 | cons fd l ih =>
   intro pl hm k p hp
   simp only [List.mapM_cons,Option.bind_eq_bind,Option.pure_def] at hm
   cases hi:P.info? fd.type with
   | none=>simp [hi] at hm
   | some i =>
     cases hr:l.mapM (fun f=>(P.info? f.type).map fun i=>(f.offset,i.size)) with
     | none=>simp [hi,hr] at hm
     | some rest =>
       simp [hi,hr] at hm
       subst hm
       cases k with
       | zero=>simp at hp; exact ⟨fd,i,by simp,hi,hp.symm⟩
       | succ k=>simp at hp; obtain ⟨a1,a2,a3,a4,a5⟩:=ih rest hr k p hp; exact ⟨a1,a2,by simpa using a3,a4,a5⟩
theorem op_move [LG] {E:Env} (hE:EnvT E) {o:Oper} {nm:Nat} {θ:Th} {h:Hp} {w:World} {a:Act} {T:Tm} {v:Value} (hr:HR θ h w) (ht:TO θ T a o) {x:Operand} (ho:o.op = .move x) (hv:opv T x=some v):OpOk E.P o nm θ h w a v h :=
 opOk_same hr (u:=a.eval x) (by simp [execOp,ho]) (ht _ (by simp [ho,Op.operands]) _ hv)
theorem op_assign [LG] {E:Env} (hE:EnvT E) {o:Oper} {nm:Nat} {θ:Th} {h:Hp} {w:World} {a:Act} {T:Tm} {v:Value} (hr:HR θ h w) (ht:TO θ T a o) {x:Operand} (ho:o.op = .assign x) (hv:opv T x=some v):OpOk E.P o nm θ h w a v h :=
 opOk_same hr (u:=a.eval x) (by simp [execOp,ho]) (ht _ (by simp [ho,Op.operands]) _ hv)
theorem op_pick [LG] {E:Env} (hE:EnvT E) {o:Oper} {nm:Nat} {θ:Th} {h:Hp} {w:World} {a:Act} {T:Tm} {v:Value} (hr:HR θ h w) (ht:TO θ T a o) {c x y:Operand} {b:Bool} (ho:o.op = .pick c x y) (hc:opv T c=some (.bool b)) (hv:opv T (if b then x else y)=some v):OpOk E.P o nm θ h w a v h:=by
 have h1:a.eval c = .bool b:=ht _ (by simp [ho,Op.operands]) _ hc
 refine opOk_same hr (u:=a.eval (if b then x else y)) ?_ (ht _ (by cases b<;>simp [ho,Op.operands]) _ hv)
 cases b<;>simp [execOp,ho,h1,asBool]
theorem op_plain [LG] {E:Env} (hE:EnvT E) {o:Oper} {nm:Nat} {θ:Th} {h h':Hp} {w:World} {a:Act} {T:Tm} {v:Value} (hr:HR θ h w) (ht:TO θ T a o) (hs:∀ cs b,o.op≠.select cs b) (hx:xplain E o (opv T) h=some (v,h')):OpOk E.P o nm θ h w a v h':=by
 unfold xplain at hx
 split at hx
 ·cases hx
 ·rename_i vs hvs
  cases hp:allPlainA vs<;>simp [hp] at hx
  have h1:=opvs_O (fun y hy=>ht y hy) hvs
  have h2:=allPlainA_eq hp h1
  have h3:=opvs_rho hvs
  have hcong:execOp a.eval o=execOp (rho (opv T)) o:=by
   refine execOp_congr o hs fun x hx=>?_
   have h4:o.op.operands.toList.map a.eval=o.op.operands.toList.map (rho (opv T)):=by rw [h2,h3]
   exact List.map_inj_left.1 h4 x (by simpa using hx)
  split at hx
  ·rename_i u hu
   cases hq:isPlain u<;>simp [hq] at hx
   obtain ⟨rfl,rfl⟩:=hx
   exact opOk_same hr (u:=u) (by rw [hcong]; exact srun_sound hu w) (W_of_S (S_plain hq))
  ·cases hx
theorem op_alloc [LG] {E:Env} (hE:EnvT E) {o:Oper} {nm:Nat} {θ:Th} {h:Hp} {w:World} {a:Act} {T:Tm} (hr:HR θ h w) (ht:TO θ T a o) {t:TypeId} {ti:TI} (hnm:θ nm=none) (ho:o.op = .alloc t) (hti:tget E.tt t=some ti):OpOk E.P o nm θ h w a (newPtr nm) (halloc h nm (mkEnt ti.zero 0)):=by
 obtain ⟨i,d,z,fl,h1,h2,h3,h4,h5,rfl⟩:=ti_spec (hE _ _ hti)
 obtain ⟨g1,g2⟩:=alloc_sound hr hnm [] (plain_all2 h5) t 0 0 (fun e=>absurd rfl e)
 simp only [List.append_nil] at g1 g2
 refine ⟨_,_,.pointer (some ⟨w.heap.size,0,none⟩),_,?_,.inl rfl,g2,g1,?_⟩
 ·simp [execOp,ho,Instr.alloc,run_zeroValue h1 h3,newVar,newRow]
 ·exact ⟨rfl,(w.heap.size,0,0),by simp,rfl⟩
theorem op_box [LG] {E:Env} (hE:EnvT E) {o:Oper} {nm:Nat} {θ:Th} {h:Hp} {w:World} {a:Act} {T:Tm} (hr:HR θ h w) (ht:TO θ T a o) {t:TypeId} {x:Operand} {u:Value} {cs:List Value} (hnm:θ nm=none) (ho:o.op = .box t x) (hx:opv T x=some u) (hc:cellsA u=some cs):OpOk E.P o nm θ h w a (newPtr nm) (halloc h nm (mkEnt cs 0)):=by
 obtain ⟨ds,h1,h2⟩:=W_cells hc (ht _ (by simp [ho,Op.operands]) _ hx)
 obtain ⟨g1,g2⟩:=alloc_sound hr hnm [] h2 t 0 0 (fun e=>absurd rfl e)
 simp only [List.append_nil] at g1 g2
 refine ⟨_,_,.pointer (some ⟨w.heap.size,0,none⟩),_,?_,.inl rfl,g2,g1,?_⟩
 ·simp [execOp,ho,Instr.box,newVar,newRow,h1]
 ·exact ⟨rfl,(w.heap.size,0,0),by simp,rfl⟩
theorem op_load [LG] {E:Env} (hE:EnvT E) {o:Oper} {nm:Nat} {θ:Th} {h h':Hp} {w:World} {a:Act} {T:Tm} {v:Value} (hr:HR θ h w) (ht:TO θ T a o) {t:TypeId} {x:Operand} {ad:Addr} {ti:TI} (ho:o.op = .load t x) (hx:opv T x=some (.pointer (some ad))) (hti:tget E.tt t=some ti)
 (hv:(bif ti.agg then ob (hload h ad ti.size) fun cs=>some (Value.agg cs.toArray,h) else match hload h ad 1 with | some [v]=>some (v,h) | _=>none)=some (v,h')):OpOk E.P o nm θ h w a v h':=by
 obtain ⟨i,d,z,fl,h1,h2,h3,h4,h5,rfl⟩:=ti_spec (hE _ _ hti)
 obtain ⟨hs,x',hx',hev⟩:ad.spot=none∧∃ x',θ ad.block=some x'∧a.eval x = .pointer (some ⟨x'.1,x'.2.1+ad.off,none⟩):=ht _ (by simp [ho,Op.operands]) _ hx
 simp only at hv
 cases hg:aggB d
 ·simp only [hg,cond_false] at hv
  split at hv
  ·rename_i u hl
   cases hv
   obtain ⟨ds,k1,k2,k3,k4⟩:=load_sound (P:=E.P) hr hl hx'
   match ds,k4 with
   | [y],_ =>
     refine opOk_same hr (u:=y) ?_ (W_of_S k2.1)
     have:=k3 0 y (by simp)
     simp only [Nat.add_zero] at this
     simp [execOp,ho,Instr.loadAt,hev,Instr.sureAddr,loadVar,run_isAgg h2,hg,this]
  ·cases hv
 ·simp only [hg,cond_true] at hv
  obtain ⟨cs,hl,hc⟩:=ob_some hv
  cases hc
  obtain ⟨ds,k1,k2,k3,k4⟩:=load_sound (P:=E.P) hr hl hx'
  refine opOk_same hr (u:=.agg ds.toArray) ?_ ⟨ds,rfl,by simpa using k2⟩
  simp [execOp,ho,Instr.loadAt,hev,Instr.sureAddr,loadVar,run_isAgg h2,hg,run_sizeOf h1,k1]
theorem op_store [LG] {E:Env} (hE:EnvT E) {o:Oper} {nm:Nat} {θ:Th} {h h':Hp} {w:World} {a:Act} {T:Tm} (hr:HR θ h w) (ht:TO θ T a o) {t:TypeId} {x y:Operand} {ad:Addr} {u:Value} {cs:List Value} {ti:TI} (ho:o.op = .store t x y) (hx:opv T x=some (.pointer (some ad))) (hy:opv T y=some u) (hti:tget E.tt t=some ti)
 (hc:cellsA u=some cs) (hl:cs.length=ti.size) (hst:hstore h ad cs=some h'):OpOk E.P o nm θ h w a undefV h':=by
 obtain ⟨i,d,z,fl,h1,h2,h3,h4,h5,rfl⟩:=ti_spec (hE _ _ hti)
 obtain ⟨hs,x',hx',hev⟩:ad.spot=none∧∃ x',θ ad.block=some x'∧a.eval x = .pointer (some ⟨x'.1,x'.2.1+ad.off,none⟩):=ht _ (by simp [ho,Op.operands]) _ hx
 obtain ⟨ds,k1,k2⟩:=W_cells hc (ht _ (by simp [ho,Op.operands]) _ hy)
 obtain ⟨g1,g2,g3⟩:=store_sound (P:=E.P) hr hst hx' k2
 refine ⟨θ,_,undef,.skip,?_,.inr ⟨rfl,rfl⟩,g3 nm,g2,⟨[],rfl,trivial⟩⟩
 have hlen:ds.length=i.size:=by rw [← all2_len k2]; exact hl
 simp [execOp,ho,Instr.storeAt,hev,Instr.sureAddr,storeVar,run_sizeOf h1,k1,hlen,g1]
theorem op_nilCheck_ptr [LG] {E:Env} (hE:EnvT E) {o:Oper} {nm:Nat} {θ:Th} {h:Hp} {w:World} {a:Act} {T:Tm} (hr:HR θ h w) (ht:TO θ T a o) {x:Operand} {ad:Addr} (ho:o.op = .nilCheck x) (hx:opv T x=some (.pointer (some ad))):OpOk E.P o nm θ h w a (.pointer (some ad)) h:=by
 have hw:=ht _ (by simp [ho,Op.operands]) _ hx
 obtain ⟨hs,x',hx',hev⟩:ad.spot=none∧∃ x',θ ad.block=some x'∧a.eval x = .pointer (some ⟨x'.1,x'.2.1+ad.off,none⟩):=ht _ (by simp [ho,Op.operands]) _ hx
 exact opOk_same hr (u:=a.eval x) (by simp [execOp,ho,hev]) hw
theorem op_nilCheck_func [LG] {E:Env} (hE:EnvT E) {o:Oper} {nm:Nat} {θ:Th} {h:Hp} {w:World} {a:Act} {T:Tm} (hr:HR θ h w) (ht:TO θ T a o) {x:Operand} {g:FuncId} {f c:Array Value} (ho:o.op = .nilCheck x) (hx:opv T x=some (.func (.func g) f c)):OpOk E.P o nm θ h w a (.func (.func g) f c) h:=by
 have hw:=ht _ (by simp [ho,Op.operands]) _ hx
 obtain ⟨a1,b1,hev,_,_⟩:∃ a' b':List Value,a.eval x = .func (.func g) a'.toArray b'.toArray∧all2 (V0 θ) f.toList a'∧all2 (V0 θ) c.toList b':=ht _ (by simp [ho,Op.operands]) _ hx
 exact opOk_same hr (u:=a.eval x) (by simp [execOp,ho,hev]) hw
theorem op_extract [LG] {E:Env} (hE:EnvT E) {o:Oper} {nm:Nat} {θ:Th} {h:Hp} {w:World} {a:Act} {T:Tm} {v:Value} (hr:HR θ h w) (ht:TO θ T a o) {x:Operand} {i:Nat} {vs:Array Value} (ho:o.op = .extract x i) (hx:opv T x=some (.tuple vs)) (hv:vs.toList[i]? = some v):OpOk E.P o nm θ h w a v h:=by
 obtain ⟨us,h1,h2⟩:∃ us:List Value,a.eval x = .tuple us.toArray∧all2 (V θ) vs.toList us:=ht _ (by simp [ho,Op.operands]) _ hx
 obtain ⟨u,h3,h4⟩:=all2_get h2 i v hv
 refine opOk_same hr (u:=u) ?_ (W_of_V h4)
 simp [execOp,ho,h1,Instr.extract,h3]
theorem op_fieldAddr [LG] {E:Env} (hE:EnvT E) {o:Oper} {nm:Nat} {θ:Th} {h:Hp} {w:World} {a:Act} {T:Tm} (hr:HR θ h w) (ht:TO θ T a o) {s:TypeId} {x:Operand} {f:Nat} {ad:Addr} {ti:TI} {fl:Nat × Nat} (ho:o.op = .fieldAddr s x f) (hx:opv T x=some (.pointer (some ad))) (hti:tget E.tt s=some ti) (hf:ti.flds[f]? = some fl)
 (hk:ti.kind=3) (hz:fl.2≠0):OpOk E.P o nm θ h w a (.pointer (some ⟨ad.block,ad.off+fl.1,none⟩)) h:=by
 obtain ⟨i,d,z,fs,h1,h2,h3,h4,h5,rfl⟩:=ti_spec (hE _ _ hti)
 obtain ⟨hs,x',hx',hev⟩:ad.spot=none∧∃ x',θ ad.block=some x'∧a.eval x = .pointer (some ⟨x'.1,x'.2.1+ad.off,none⟩):=ht _ (by simp [ho,Op.operands]) _ hx
 obtain ⟨fields,rfl⟩:=kind_struct hk
 simp only [fldsOf] at h4
 obtain ⟨fd,i',e1,e2,rfl⟩:=mapM_fields _ _ h4 f fl hf
 have e1':fields[f]? = some fd:=by simpa using e1
 refine opOk_same hr (u:=.pointer (some ⟨x'.1,x'.2.1+(ad.off+fd.offset),none⟩)) ?_ ⟨rfl,x',hx',rfl⟩
 simp only at hz
 simp [execOp,ho,Instr.fieldAt,run_underlying h2,e1',hev,Instr.sureAddr,fieldPlace,run_sizeOf e2,hz,add_addr,Nat.add_assoc]
theorem op_indexAddr_slice [LG] {E:Env} (hE:EnvT E) {o:Oper} {nm:Nat} {θ:Th} {h:Hp} {w:World} {a:Act} {T:Tm} (hr:HR θ h w) (ht:TO θ T a o) {t:TypeId} {x ix:Operand} {ad:Addr} {len cap:Nat} {k:IntKind} {i:Int} {ti ei:TI} (ho:o.op = .indexAddr t x ix) (hx:opv T x=some (.slice (some ad) len cap)) (hi:opv T ix=some (.int k i))
 (hti:tget E.tt t=some ti) (hei:tget E.tt ti.elem=some ei) (hk:ti.kind=1) (h0:0≤i) (h1:i<len):OpOk E.P o nm θ h w a (.pointer (some ⟨ad.block,ad.off+i.toNat*ei.size,none⟩)) h:=by
 obtain ⟨i1,d,z,fs,k1,k2,k3,k4,k5,rfl⟩:=ti_spec (hE _ _ hti)
 obtain ⟨i2,d2,z2,fs2,m1,m2,m3,m4,m5,rfl⟩:=ti_spec (hE _ _ hei)
 simp only at hk hei m1 m2
 have hd:=kind_slice hk
 rw [hd] at k2
 have hix:a.eval ix = .int k i:=ht _ (by simp [ho,Op.operands]) _ hi
 have hw0:SlR θ ad len cap (a.eval x):=ht _ (by simp [ho,Op.operands]) _ hx
 obtain ⟨hs,x',c',hx',hc,hev⟩:ad.spot=none∧∃ x' c',θ ad.block=some x'∧capR x'.2.2 cap c'∧a.eval x = .slice (some ⟨x'.1,x'.2.1+ad.off,none⟩) len c':=hw0.resolve_right fun q=>by have:=q.2.1; omega
 refine opOk_same hr (u:=.pointer (some ⟨x'.1,x'.2.1+(ad.off+i.toNat*i2.size),none⟩)) ?_ ⟨rfl,x',hx',rfl⟩
 simp [execOp,ho,Instr.indexAt,hix,asIntOf,run_underlying k2,hev,h0,h1,run_sizeOf m1,add_addr,Nat.add_assoc]
theorem op_indexAddr_array [LG] {E:Env} (hE:EnvT E) {o:Oper} {nm:Nat} {θ:Th} {h:Hp} {w:World} {a:Act} {T:Tm} (hr:HR θ h w) (ht:TO θ T a o) {t:TypeId} {x ix:Operand} {ad:Addr} {k:IntKind} {i:Int} {ti ei:TI} (ho:o.op = .indexAddr t x ix) (hx:opv T x=some (.pointer (some ad))) (hi:opv T ix=some (.int k i))
 (hti:tget E.tt t=some ti) (hei:tget E.tt ti.elem=some ei) (hk:ti.kind=2) (h0:0≤i) (h1:i<ti.alen):OpOk E.P o nm θ h w a (.pointer (some ⟨ad.block,ad.off+i.toNat*ei.size,none⟩)) h:=by
 obtain ⟨i1,d,z,fs,k1,k2,k3,k4,k5,rfl⟩:=ti_spec (hE _ _ hti)
 obtain ⟨i2,d2,z2,fs2,m1,m2,m3,m4,m5,rfl⟩:=ti_spec (hE _ _ hei)
 simp only at hk hei m1 m2 h1
 have hd:=kind_array hk
 rw [hd] at k2
 have hix:a.eval ix = .int k i:=ht _ (by simp [ho,Op.operands]) _ hi
 obtain ⟨hs,x',hx',hev⟩:ad.spot=none∧∃ x',θ ad.block=some x'∧a.eval x = .pointer (some ⟨x'.1,x'.2.1+ad.off,none⟩):=ht _ (by simp [ho,Op.operands]) _ hx
 refine opOk_same hr (u:=.pointer (some ⟨x'.1,x'.2.1+(ad.off+i.toNat*i2.size),none⟩)) ?_ ⟨rfl,x',hx',rfl⟩
 simp [execOp,ho,Instr.indexAt,hix,asIntOf,run_underlying k2,hev,h0,h1,run_sizeOf m1,add_addr,Nat.add_assoc,Instr.sureAddr]
end Go.Ev
set_option linter.unusedVariables false
set_option linter.unusedSimpArgs false
namespace Go.Ev
open Go.Deep Go.RowKit
theorem lput_nil {α:Type} (cs:List α) (n:Nat):lput cs n []=cs:=by cases cs<;>simp [lput]
theorem lput_cons {α:Type}:∀ (cs:List α) (n:Nat) (v:α) (vs:List α),lput cs n (v :: vs)=lput (cs.set n v) (n+1) vs
 | [],n,v,vs=>by cases vs<;>simp [lput]
 | c :: cs,0,v,vs=>by
   cases vs with
   | nil=>simp [lput,lput_nil]
   | cons u us=>simp [lput]
 | c :: cs,n+1,v,vs=>by
   simp only [lput,List.set_cons_succ]
   rw [lput_cons cs n v vs]
   cases vs with
   | nil=>simp [lput_nil]
   | cons u us=>simp [lput]
theorem lput_length {α:Type}:∀ (cs:List α) (n:Nat) (vs:List α),(lput cs n vs).length=cs.length
 | cs,n,[]=>by rw [lput_nil]
 | [],n,v :: vs=>by simp [lput]
 | c :: cs,0,v :: vs=>by simp [lput,lput_length cs 0 vs]
 | c :: cs,n+1,v :: vs=>by simp [lput,lput_length cs n (v :: vs)]
theorem fold_put:∀ (vs:List Value) (off k:Nat) (cells:List Value),(vs.zipIdx k).foldl (fun (cs:Array Value) (p:Value × Nat)=>cs.setIfInBounds (off+p.2) p.1) cells.toArray=(lput cells (off+k) vs).toArray
 | [],off,k,cells=>by simp [lput_nil]
 | v :: vs,off,k,cells=>by
   rw [lput_cons,List.zipIdx_cons,List.foldl_cons]
   simp only
   have:cells.toArray.setIfInBounds (off+k) v=(cells.set (off+k) v).toArray:=by simp
   rw [this,fold_put vs off (k+1) _,Nat.add_assoc]
theorem all2_lput {α β:Type} {p:α→β→Prop}:∀ {cs:List α} {ds:List β} {n:Nat} {vs:List α} {us:List β},all2 p cs ds→all2 p vs us→all2 p (lput cs n vs) (lput ds n us)
 | cs,ds,n,[],[],h,_=>by rw [lput_nil,lput_nil]; exact h
 | [],[],n,_ :: _,_ :: _,_,_=>by simp [lput,all2]
 | _ :: _,_ :: _,0,_ :: _,_ :: _,h,g=>⟨g.1,all2_lput h.2 g.2⟩
 | _ :: _,_ :: _,n+1,_ :: _,_ :: _,h,g=>⟨h.1,all2_lput (vs:=_ :: _) (us:=_ :: _) h.2 g⟩
 | [],_ :: _,_,_,_,h,_=>h.elim
 | _ :: _,[],_,_,_,h,_=>h.elim
 | _,_,_,[],_ :: _,_,h=>h.elim
 | _,_,_,_ :: _,[],_,h=>h.elim
theorem fill_sound {θ:Th} {T:Tm} {a:Act} {pl:Nat→Option (Nat × Nat)}:∀ {parts:List (Nat × Operand)} {ps:List (Nat × Nat × Value)} {cs cs' ds:List Value},(∀ p∈parts,∀ v,opv T p.2=some v→W θ v (a.eval p.2))→
 partsA (opv T) pl parts=some ps→fillA cs ps=some cs'→all2 (S θ) cs ds→∃ ds':List Value,Instr.fill pl ds.toArray (parts.map fun (i,x)=>(i,a.eval x))=some ds'.toArray∧all2 (S θ) cs' ds'
 | [],ps,cs,cs',ds,ht,h1,h2,h3=>by
   cases h1
   cases h2
   exact ⟨ds,by simp [Instr.fill],h3⟩
 | (i,x) :: l,ps,cs,cs',ds,ht,h1,h2,h3=>by
  simp only [partsA] at h1
  split at h1
  ·rename_i off sz u r hp hu hrest
   cases h1
   simp only [fillA] at h2
   split at h2
   ·cases h2
   ·rename_i vs hvs
    cases hb:(Nat.beq vs.length sz&&Nat.ble (off+vs.length) cs.length)<;>simp only [hb,cond_true,cond_false] at h2
    ·cases h2
    ·simp only [Bool.and_eq_true] at hb
     have hb1:=Nat.eq_of_beq_eq_true hb.1
     have hb2:=Nat.le_of_ble_eq_true hb.2
     obtain ⟨us,k1,k2⟩:=W_cells hvs (ht (i,x) (by simp) u hu)
     have l1:=all2_len k2
     have l2:=all2_len h3
     obtain ⟨ds',g1,g2⟩:=fill_sound (fun p hp=>ht p (by simp [hp])) hrest h2 (all2_lput (n:=off) h3 k2)
     refine ⟨ds',?_,g2⟩
     simp only [List.map_cons,Instr.fill,hp,k1]
     rw [if_neg (by simp; omega)]
     have:=fold_put us off 0 ds
     simp only [Nat.add_zero] at this
     rw [← g1,← this]
     simp
  ·cases h1
theorem lrep_length {α:Type} (z:List α):∀ n,(lrep z n).length=n*z.length
 | 0=>by simp [lrep]
 | n+1=>by simp [lrep,lrep_length z n,Nat.add_mul,Nat.add_comm]
theorem lrep_get {α:Type} (z:List α) (hz:0<z.length):∀ (n i:Nat),i<n*z.length→(lrep z n)[i]? = z[i%z.length]?
 | 0,i,h=>by simp at h
 | n+1,i,h=>by
   simp only [lrep]
   by_cases hi:i<z.length
   ·rw [List.getElem?_append_left hi,Nat.mod_eq_of_lt hi]
   ·have hm:=Nat.mod_eq_sub_mod (a:=i) (b:=z.length) (by omega)
    rw [List.getElem?_append_right (by omega),lrep_get z hz n (i-z.length) (by rw [Nat.succ_mul] at h; omega),hm]
theorem range_zero (z:List Value) (n:Nat):(Array.range (n*z.length)).map (fun i=>z.toArray[i%z.toArray.size]!)=(lrep z n).toArray:=by
 apply Array.ext'
 apply List.ext_getElem?
 intro i
 by_cases h:i<n*z.length
 ·have hz:0<z.length:=by
   rcases Nat.eq_zero_or_pos z.length with e | e
   ·rw [e] at h; simp at h
   ·exact e
  have hm:i%z.length<z.length:=Nat.mod_lt _ hz
  simp [h,hm,lrep_get z hz n i h]
 ·have h1:(lrep z n).length≤i:=by rw [lrep_length]; omega
  simp [List.getElem?_eq_none h1,h]
theorem plain_lrep {z:List Value} (h:allPlain z=true):∀ n,allPlain (lrep z n)=true
 | 0=>rfl
 | n+1=>by
   have app:∀ (x y:List Value),allPlain x=true→allPlain y=true→allPlain (x++y)=true:=by
    intro x
    induction x with
    | nil=>intro y _ hy; exact hy
    | cons u x ih =>
      intro y hx hy
      simp only [allPlain,Bool.and_eq_true] at hx
      simp [allPlain,hx.1,ih y hx.2 hy]
   exact app _ _ h (plain_lrep h n)
theorem op_build_struct [LG] {E:Env} (hE:EnvT E) {o:Oper} {nm:Nat} {θ:Th} {h:Hp} {w:World} {a:Act} {T:Tm} (hr:HR θ h w) (ht:TO θ T a o) {t:TypeId} {parts:Array (Nat × Operand)} {ti:TI} {ps:List (Nat × Nat × Value)} {cs:List Value}
 (ho:o.op = .build t parts) (hti:tget E.tt t=some ti) (hk:ti.kind=3) (hp:partsA (opv T) (fun i=>ti.flds[i]?) parts.toList=some ps) (hf:fillA ti.zero ps=some cs):OpOk E.P o nm θ h w a (.agg cs.toArray) h:=by
 obtain ⟨i,d,z,fl,h1,h2,h3,h4,h5,rfl⟩:=ti_spec (hE _ _ hti)
 obtain ⟨fields,rfl⟩:=kind_struct hk
 simp only [fldsOf] at h4
 obtain ⟨ds,g1,g2⟩:=fill_sound (fun p hp v=>ht p.2 (by simp only [ho,Op.operands]; simp; exact ⟨p.1,by simpa using hp⟩) v) hp hf (plain_all2 h5)
 refine opOk_same hr (u:=.agg ds.toArray) ?_ ⟨ds,rfl,by simpa using g2⟩
 have hmap:(parts.map fun (i,x)=>(i,a.eval x)).toList=parts.toList.map fun (i,x)=>(i,a.eval x):=by simp
 have hpl:=run_places (P:=E.P) w fields.toList fl h4
 simp only [execOp,ho,Instr.build,Sem.run_bind,run_zeroValue h1 h3,Result.andThen_ok,run_underlying h2,hmap]
 simp [Array.mapM_eq_mapM_toList,hpl]
 have hz:z.cells=z.cells.toList.toArray:=by simp
 rw [hz,g1]
 simp
theorem op_build_array [LG] {E:Env} (hE:EnvT E) {o:Oper} {nm:Nat} {θ:Th} {h:Hp} {w:World} {a:Act} {T:Tm} (hr:HR θ h w) (ht:TO θ T a o) {t:TypeId} {parts:Array (Nat × Operand)} {ti ei:TI} {ps:List (Nat × Nat × Value)} {cs:List Value}
 (ho:o.op = .build t parts) (hti:tget E.tt t=some ti) (hk:ti.kind=2) (hei:tget E.tt ti.elem=some ei) (hp:partsA (opv T) (fun i=>some (i*ei.size,ei.size)) parts.toList=some ps) (hf:fillA ti.zero ps=some cs):OpOk E.P o nm θ h w a (.agg cs.toArray) h:=by
 obtain ⟨i,d,z,fl,h1,h2,h3,h4,h5,rfl⟩:=ti_spec (hE _ _ hti)
 obtain ⟨i2,d2,z2,fs2,m1,m2,m3,m4,m5,rfl⟩:=ti_spec (hE _ _ hei)
 simp only at hk hei m1 m2 hp hf
 rw [kind_array hk] at h2
 obtain ⟨ds,g1,g2⟩:=fill_sound (fun p hp v=>ht p.2 (by simp only [ho,Op.operands]; simp; exact ⟨p.1,by simpa using hp⟩) v) hp hf (plain_all2 h5)
 refine opOk_same hr (u:=.agg ds.toArray) ?_ ⟨ds,rfl,by simpa using g2⟩
 have hmap:(parts.map fun (i,x)=>(i,a.eval x)).toList=parts.toList.map fun (i,x)=>(i,a.eval x):=by simp
 have hz:z.cells=z.cells.toList.toArray:=by simp
 simp only [execOp,ho,Instr.build,Sem.run_bind,run_zeroValue h1 h3,Result.andThen_ok,run_underlying h2,hmap,run_sizeOf m1]
 rw [hz,g1]
 simp
theorem op_buildSlice [LG] {E:Env} (hE:EnvT E) {o:Oper} {nm:Nat} {θ:Th} {h:Hp} {w:World} {a:Act} {T:Tm} (hr:HR θ h w) (ht:TO θ T a o) {t:TypeId} {len:Nat} {parts:Array (Nat × Operand)} {ti ei:TI} {ps:List (Nat × Nat × Value)} {cs:List Value}
 (hnm:θ nm=none) (ho:o.op = .buildSlice t len parts) (hti:tget E.tt t=some ti) (hk:ti.kind=1) (hei:tget E.tt ti.elem=some ei) (hb:len*ei.size≤16777216) (hb':len≤16777216) (hzl:ei.zero.length=ei.size)
 (hp:partsA (opv T) (fun i=>some (i*ei.size,ei.size)) parts.toList=some ps) (hf:fillA (lrep ei.zero len) ps=some cs) :
 OpOk E.P o nm θ h w a (.slice (some ⟨nm,0,none⟩) len len) (halloc h nm (mkEnt cs 0)):=by
 obtain ⟨i,d,z,fl,h1,h2,h3,h4,h5,rfl⟩:=ti_spec (hE _ _ hti)
 obtain ⟨i2,d2,z2,fs2,m1,m2,m3,m4,m5,rfl⟩:=ti_spec (hE _ _ hei)
 simp only at hk hei m1 m2 hp hf hb hzl
 rw [kind_slice hk] at h2
 obtain ⟨ds,g1,g2⟩:=fill_sound (fun p hp v=>ht p.2 (by simp only [ho,Op.operands]; simp; exact ⟨p.1,by simpa using hp⟩) v) hp hf (plain_all2 (plain_lrep m5 len))
 obtain ⟨e1,e2⟩:=alloc_sound hr hnm [] g2 (kindOf d).2.1 0 0 (fun e=>absurd rfl e)
 simp only [List.append_nil] at e1 e2
 refine ⟨_,_,.slice (some ⟨w.heap.size,0,none⟩) len len,_,?_,.inl rfl,e2,e1,?_⟩
 ·have hmap:(parts.map fun (i,x)=>(i,a.eval x)).toList=parts.toList.map fun (i,x)=>(i,a.eval x):=by simp
  have hz:z2.cells=z2.cells.toList.toArray:=by simp
  by_cases e:len*i2.size=0
  ·have hn:(lrep z2.cells.toList len)=[]:=by
    apply List.eq_nil_of_length_eq_zero
    rw [lrep_length,hzl,e]
   rw [hn] at g1
   simp only [execOp,ho,Instr.buildSlice,Sem.run_bind,Result.andThen_ok,run_underlying h2,hmap,run_sizeOf m1]
   rw [if_neg (by omega),if_pos e]
   simp only [Sem.run_bind,Sem.run_pure,Result.andThen_ok,e]
   have hz0:∀ f:Nat→Value,(Array.range 0).map f=([]:List Value).toArray:=fun f=>by simp
   rw [hz0,g1]
   simp [newRow]
  ·have hrow:=range_zero z2.cells.toList len
   rw [hzl] at hrow
   simp only [Array.toArray_toList] at hrow
   simp only [execOp,ho,Instr.buildSlice,Sem.run_bind,Result.andThen_ok,run_underlying h2,hmap,run_sizeOf m1]
   rw [if_neg (by omega),if_neg e]
   simp only [Sem.run_bind,Sem.run_pure,Result.andThen_ok,run_zeroValue m1 m3,hrow,g1]
   simp [newRow]
 ·exact .inl ⟨rfl,(w.heap.size,0,0),len,by simp,.inl ⟨by unfold unkU; omega,rfl⟩,rfl⟩
end Go.Ev
set_option linter.unusedVariables false
set_option linter.unusedSimpArgs false
namespace Go.Ev
open Go.Deep Go.RowKit
theorem wrap_small {n:Int} (h0:0≤n) (h1:n≤1000000):IntKind.i64.wrap n=n:=by
 have hm:n%18446744073709551616=n:=Int.emod_eq_of_lt h0 (by omega)
 simp [IntKind.wrap,IntKind.bits,IntKind.signed,hm]
 omega
theorem zeros_eq (z:Array Value) (n:Nat):Builtin.zeroCells z n=(lrep z.toList n).toArray:=by
 have:=range_zero z.toList n
 simpa [Builtin.zeroCells] using this
section
variable {P : Program} {e' : TypeId} {k' : IntKind} (w : World) (t u ty e : TypeId) (i : TypeInfo) (z : Value)
theorem app_room_slice (ht:P.underlying t=some (.slice e)) (hu:P.underlying u=some (.slice e')) (hi:P.info? e=some i) (hz:i.zero=some z)
 (b:Addr) (sLen sCap:Nat) (x:Option Addr) (n c:Nat) (news:List Value) (hnew:∀ s',(Builtin.firstCells i.size n (.slice x n c)).run P s' = .ok news.toArray s'∨s'≠w)
 (hroom:sLen+n≤sCap) (w':World) (hst:(storeCells (b.add (sLen*i.size)) news).run P w = .ok () w') :
 (Builtin.append_ #[t,u] ty #[.slice (some b) sLen sCap,.slice x n c]).run P w = .ok (.slice (some b) (sLen+n) sCap) w':=by
 have hf:=(hnew w).resolve_right (fun h=>h rfl)
 simp [Builtin.append_,run_underlying ht,run_underlying hu,sizeOf,typeInfo,hi,Builtin.lenOf,hroom,hf,hst]
theorem app_room_zeros (ht:P.underlying t=some (.slice e)) (hu:P.underlying u=some (.int k')) (hi:P.info? e=some i) (hz:i.zero=some z) (hzl:z.cells.toList.length=i.size)
 (b:Addr) (sLen sCap:Nat) (n:Int) (h0:0≤n) (h1:n≤1000000) (hb:i.bytes≤1000000)
 (hroom:sLen+n.toNat≤sCap) (w':World) (hst:(storeCells (b.add (sLen*i.size)) (lrep z.cells.toList n.toNat)).run P w = .ok () w') :
 (Builtin.append_ #[t,u] ty #[.slice (some b) sLen sCap,.int .i64 n]).run P w = .ok (.slice (some b) (sLen+n.toNat) sCap) w':=by
 have hw:=wrap_small h0 h1
 have hneg:¬ n<0:=by omega
 have hbig:¬ (281474976710656<n*(i.bytes:Int)):=by
  have:n*(i.bytes:Int)≤1000000*1000000:=Int.mul_le_mul h1 (by omega) (by omega) (by omega)
  omega
 by_cases e0:n.toNat*i.size=0
 ·have hn:lrep z.cells.toList n.toNat=[]:=List.eq_nil_of_length_eq_zero (by rw [lrep_length,hzl,e0])
  rw [hn] at hst
  simp [Builtin.append_,run_underlying ht,run_underlying hu,sizeOf,typeInfo,hi,asInt,asIntOf,hw,hneg,hbig,hroom,e0,hst]
 ·have hz':=zeros_eq z.cells n.toNat
  simp [Builtin.append_,run_underlying ht,run_underlying hu,sizeOf,typeInfo,zeroValue,hi,hz,asInt,asIntOf,hw,hneg,hbig,hroom,e0,hz',hst]
theorem app_grow_slice (ht:P.underlying t=some (.slice e)) (hu:P.underlying u=some (.slice e')) (hi:P.info? e=some i) (hz:i.zero=some z)
 (b:Option Addr) (sLen sCap:Nat) (x:Option Addr) (n c:Nat) (olds news:List Value) (hnew:(Builtin.firstCells i.size n (.slice x n c)).run P w.drew = .ok news.toArray w.drew)
 (hold:(Builtin.firstCells i.size sLen (.slice b sLen sCap)).run P w.drew = .ok olds.toArray w.drew)
 (hg:sCap<sLen+n) (h63:((sLen+n:Nat):Int)≤9223372036854775807) (hfit:Builtin.nextslicecap (sLen+n) sCap*i.bytes≤281474976710656) :
 (Builtin.append_ #[t,u] ty #[.slice b sLen sCap,.slice x n c]).run P w =
   .ok (.slice (some ⟨w.heap.size,0,none⟩) (sLen+n) (grownCap w (sLen+n) sCap e))
    (w.drew.alloc (.cells ((olds++news)++lrep z.cells.toList (grownCap w (sLen+n) sCap e-(sLen+n))).toArray e)):=by
 have hn:¬ (sLen+n≤sCap):=by omega
 have h63':¬ (9223372036854775807<((sLen:Int)+(n:Int))):=by omega
 have h48':¬ (281474976710656<Builtin.nextslicecap (sLen+n) sCap*i.bytes):=by omega
 simp [Builtin.append_,run_underlying ht,run_underlying hu,sizeOf,typeInfo,zeroValue,hi,hz,Builtin.lenOf,hn,h63',h48',Question.forced,hnew,hold,newRow,grownCap,zeros_eq]
theorem app_grow_zeros (ht:P.underlying t=some (.slice e)) (hu:P.underlying u=some (.int k')) (hi:P.info? e=some i) (hz:i.zero=some z) (hzl:z.cells.toList.length=i.size)
 (b:Option Addr) (sLen sCap:Nat) (n:Int) (h0:0≤n) (h1:n≤1000000) (hb:i.bytes≤1000000) (olds:List Value)
 (hold:(Builtin.firstCells i.size sLen (.slice b sLen sCap)).run P w.drew = .ok olds.toArray w.drew)
 (hg:sCap<sLen+n.toNat) (h63:((sLen+n.toNat:Nat):Int)≤9223372036854775807) (hfit:Builtin.nextslicecap (sLen+n.toNat) sCap*i.bytes≤281474976710656) :
 (Builtin.append_ #[t,u] ty #[.slice b sLen sCap,.int .i64 n]).run P w =
   .ok (.slice (some ⟨w.heap.size,0,none⟩) (sLen+n.toNat) (grownCap w (sLen+n.toNat) sCap e))
    (w.drew.alloc (.cells ((olds++lrep z.cells.toList n.toNat)++lrep z.cells.toList (grownCap w (sLen+n.toNat) sCap e-(sLen+n.toNat))).toArray e)):=by
 have hw:=wrap_small h0 h1
 have hneg:¬ n<0:=by omega
 have hbig:¬ (281474976710656<n*(i.bytes:Int)):=by
  have:n*(i.bytes:Int)≤1000000*1000000:=Int.mul_le_mul h1 (by omega) (by omega) (by omega)
  omega
 have hn:¬ (sLen+n.toNat≤sCap):=by omega
 have h63':¬ (9223372036854775807<((sLen:Int)+(n.toNat:Int))):=by omega
 have h63'':¬ (9223372036854775807<((sLen:Int)+max n 0)):=by omega
 have h48':¬ (281474976710656<Builtin.nextslicecap (sLen+n.toNat) sCap*i.bytes):=by omega
 by_cases e0:n.toNat*i.size=0
 ·have hn0:lrep z.cells.toList n.toNat=[]:=List.eq_nil_of_length_eq_zero (by rw [lrep_length,hzl,e0])
  rw [hn0]
  simp [Builtin.append_,run_underlying ht,run_underlying hu,sizeOf,typeInfo,zeroValue,hi,hz,asInt,asIntOf,hw,hneg,hbig,hn,h63',h63'',h48',e0,Question.forced,hold,newRow,grownCap,zeros_eq]
 ·simp [Builtin.append_,run_underlying ht,run_underlying hu,sizeOf,typeInfo,zeroValue,hi,hz,asInt,asIntOf,hw,hneg,hbig,hn,h63',h63'',h48',e0,Question.forced,hold,newRow,grownCap,zeros_eq]
end
theorem derive_sound [LG] {P:Program} {θ:Th} {h:Hp} {w:World} (hr:HR θ h w) {n0 nm:Nat} {e:Ent} {x:Nat × Nat × Nat} (he:tget h.m n0=some e) (hx:θ n0=some x) (hnm:θ nm=none)
 {sz sub len n:Nat} (hsz:1≤sz) (hu:e.unk=sz) (hwr:e.unk≠roU) {olds nc ns:List Value} (hold:rd e.cells (sub*sz) (len*sz)=some olds) (hnc:all2 (S θ) nc ns) (hl:nc.length=n*sz) (hneed:len+n≤x.2.2-sub) :
 (storeCells ⟨x.1,x.2.1+sub*sz+len*sz,none⟩ ns).run P w = .ok () (w.setCells x.1 (x.2.1+sub*sz+len*sz) ns)∧
 HR (fun k=>if k=nm then some (x.1,x.2.1+sub*sz,x.2.2-sub) else θ k) (halloc ⟨tset h.m n0 none,h.nxt⟩ nm (mkEnt (olds++nc) sz)) (w.setCells x.1 (x.2.1+sub*sz+len*sz) ns)∧
 Ext nm θ h w (fun k=>if k=nm then some (x.1,x.2.1+sub*sz,x.2.2-sub) else θ k) (halloc ⟨tset h.m n0 none,h.nxt⟩ nm (mkEnt (olds++nc) sz)) (w.setCells x.1 (x.2.1+sub*sz+len*sz) ns):=by
 obtain ⟨y,hy⟩:∃ y,y=x:=⟨x,rfl⟩
 subst hy
 have r:=hr.ent _ _ _ he hx
 have hne0:n0≠nm:=fun e1=>by subst e1; rw [hnm] at hx; cases hx
 have hol:=rd_len hold
 have hog:=rd_get hold
 have hnl:ns.length=n*sz:=by rw [← all2_len hnc,hl]
 have hroom:∀ i,i<(y.2.2-sub)*sz→(w.cell? ⟨y.1,y.2.1+(sub*sz+i),none⟩).isSome=true∧w.frozen? ⟨y.1,y.2.1+(sub*sz+i),none⟩=false:=by
  intro i hi
  refine (r.room (by omega)).2 _ ?_
  rw [hu]
  have hlt:sub≤y.2.2:=by
   rcases Nat.lt_or_ge y.2.2 sub with h1 | h1
   ·rw [Nat.sub_eq_zero_of_le (Nat.le_of_lt h1)] at hi; simp at hi
   ·exact h1
  have:sub*sz+(y.2.2-sub)*sz=y.2.2*sz:=by rw [← Nat.add_mul]; congr 1; omega
  omega
 have hmul:len*sz+n*sz≤(y.2.2-sub)*sz:=by rw [← Nat.add_mul]; exact Nat.mul_le_mul_right _ hneed
 have hkeep:∀ k z,θ k=some z→(fun k=>if k=nm then some (y.1,y.2.1+sub*sz,y.2.2-sub) else θ k) k=some z:=by
  intro k z hz
  have:k≠nm:=fun e1=>by subst e1; rw [hnm] at hz; cases hz
  simp only [if_neg this,hz]
 have hone:∀ v∈ns,v.oneCell'=true:=by
  intro v hm
  obtain ⟨i,hi,rfl⟩:=List.getElem_of_mem hm
  have h1:nc[i]? = some nc[i]:=List.getElem?_eq_getElem (by omega)
  obtain ⟨b,hb,hS⟩:=all2_get hnc i _ h1
  rw [List.getElem?_eq_getElem hi] at hb
  cases hb
  exact S_one hS
 have hex:∀ j,j<ns.length→(w.cell? ⟨y.1,y.2.1+sub*sz+len*sz+j,none⟩).isSome=true∧w.frozen? ⟨y.1,y.2.1+sub*sz+len*sz+j,none⟩=false:=by
  intro j hj
  have:=hroom (len*sz+j) (by omega)
  rw [show y.2.1+sub*sz+len*sz+j=y.2.1+(sub*sz+(len*sz+j)) by omega]
  exact this
 have hrun:=run_storeCells_cells (P:=P) y.1 (y.2.1+sub*sz+len*sz) ns 0 w (by simpa using fun j hj=>(hex j hj).1) (by simpa using fun j hj=>(hex j hj).2) hone
 have hin:=World.cell?_setCells_in y.1 ns (y.2.1+sub*sz+len*sz) w (fun j hj=>(hex j hj).1)
 have hsep:∀ m e' z,tget h.m m=some e'→θ m=some z→m≠n0→z.1≠y.1:=fun m e' z h1 h2 h3=>hr.sep _ _ _ _ _ _ h1 he h3 h2 hx
 refine ⟨by simpa using hrun,⟨?_,?_,?_⟩,hkeep,?_,?_,?_,(setCells_os _ _ _ _).2.1,(setCells_os _ _ _ _).1,(setCells_os _ _ _ _).2.2,?_,?_,?_⟩
 ·intro k ek xk hk hxk
  simp only [halloc,tget_tset] at hk
  by_cases hb:nm=k
  ·subst hb
   rw [if_pos rfl] at hk
   cases hk
   simp only [if_true,Option.some.injEq] at hxk
   subst hxk
   refine ⟨by simp,by rw [setCells_size]; exact r.lt,fun i v hi=>?_,fun o ho=>(by cases ho),fun _=>⟨?_,fun i hi=>?_⟩⟩
   ·simp only [mkEnt,tget_wr_nil] at hi
    rw [World.frozen?_setCells]
    by_cases hlt:i<olds.length
    ·rw [List.getElem?_append_left hlt] at hi
     obtain ⟨⟨q,q1,q2⟩,q3⟩:=r.cell _ _ (hog i v hi)
     rw [← Nat.add_assoc] at q1 q3
     refine ⟨⟨q,?_,S_mono hkeep q2⟩,q3⟩
     rw [World.cell?_setCells_out _ _ _ _ _ (fun _ _=>by simp only; omega)]
     exact q1
    ·rw [List.getElem?_append_right (by omega)] at hi
     obtain ⟨q,q1,q2⟩:=all2_get hnc _ _ hi
     have hj:i-olds.length<ns.length:=by
      rcases Nat.lt_or_ge (i-olds.length) ns.length with g | g
      ·exact g
      ·rw [List.getElem?_eq_none g] at q1; cases q1
     have hcc:=hin (i-olds.length) hj
     rw [List.getElem?_eq_getElem hj] at q1
     cases q1
     have hpos:y.2.1+sub*sz+len*sz+(i-olds.length)=y.2.1+sub*sz+i:=by omega
     rw [hpos] at hcc
     refine ⟨⟨_,hcc,S_mono hkeep q2⟩,?_⟩
     have:=(hex (i-olds.length) hj).2
     rwa [hpos] at this
   ·simp only [mkEnt,List.length_append]
    omega
   ·rw [World.frozen?_setCells]
    have:=hroom i hi
    rw [← Nat.add_assoc] at this
    refine ⟨?_,this.2⟩
    simp only
    by_cases hlt:len*sz≤i∧i<len*sz+ns.length
    ·have hcc:=hin (i-len*sz) (by omega)
     rw [show y.2.1+sub*sz+len*sz+(i-len*sz)=y.2.1+sub*sz+i by omega] at hcc
     rw [hcc]; rfl
    ·rw [World.cell?_setCells_out _ _ _ _ _ (fun _ _=>by simp only; omega)]
     exact this.1
  ·rw [if_neg hb] at hk
   by_cases hb0:n0=k
   ·rw [if_pos hb0] at hk; cases hk
   ·rw [if_neg hb0] at hk
    simp only [if_neg (Ne.symm hb)] at hxk
    have rz:=hr.ent _ _ _ hk hxk
    have hs:=hsep _ _ _ hk rz.at_ (Ne.symm hb0)
    refine ⟨hkeep _ _ rz.at_,by rw [setCells_size]; exact rz.lt,fun i v hi=>?_,fun o ho=>(by rw [setCells_heap _ _ _ _ _ hs]; exact ObR_mono hkeep (rz.ob o ho)),fun hu'=>?_⟩
    ·rw [World.frozen?_setCells,World.cell?_setCells_out _ _ _ _ _ (fun e1 _=>absurd e1 hs)]
     obtain ⟨⟨q,q1,q2⟩,q3⟩:=rz.cell i v hi
     exact ⟨⟨q,q1,S_mono hkeep q2⟩,q3⟩
    ·obtain ⟨g1,g2⟩:=rz.room hu'
     refine ⟨g1,fun i hi=>?_⟩
     rw [World.frozen?_setCells,World.cell?_setCells_out _ _ _ _ _ (fun e1 _=>absurd e1 hs)]
     exact g2 i hi
 ·intro k m e1 e2 z1 z2 h1 h2 hne t1 t2
  simp only [halloc,tget_tset] at h1 h2
  by_cases hk:nm=k
  ·subst hk
   rw [if_neg hne] at h2
   simp only [if_true] at t1
   simp only [if_neg (Ne.symm hne)] at t2
   by_cases hb0:n0=m
   ·rw [if_pos hb0] at h2; cases h2
   ·rw [if_neg hb0] at h2
    cases t1
    exact (hsep _ _ _ h2 t2 (Ne.symm hb0)).symm
  ·rw [if_neg hk] at h1
   simp only [if_neg (Ne.symm hk)] at t1
   by_cases hb1:n0=k
   ·rw [if_pos hb1] at h1; cases h1
   ·rw [if_neg hb1] at h1
    by_cases hm:nm=m
    ·subst hm
     simp only [if_true] at t2
     cases t2
     exact hsep _ _ _ h1 t1 (Ne.symm hb1)
    ·rw [if_neg hm] at h2
     simp only [if_neg (Ne.symm hm)] at t2
     by_cases hb0:n0=m
     ·rw [if_pos hb0] at h2; cases h2
     ·rw [if_neg hb0] at h2
      exact hr.sep k m e1 e2 z1 z2 h1 h2 hne t1 t2
 ·intro k hk
  simp only [halloc] at hk
  have h1:k≠nm:=by omega
  simp only [if_neg h1]
  exact hr.fresh k (by omega)
 ·intro k _ hne
  simp only [if_neg hne]
 ·simp only [halloc]; omega
 ·rw [setCells_size]; exact Nat.le_refl _
 ·intro b hb hno
  exact setCells_heap _ _ _ _ _ (fun e1=>hno _ _ _ he hwr hx e1.symm)
 ·intro k ek z h1 huk h2
  simp only [halloc,tget_tset] at h1
  by_cases hk:nm=k
  ·subst hk
   simp only [if_true] at h2
   cases h2
   exact .inr ⟨n0,e,y,he,hwr,hx,rfl⟩
  ·rw [if_neg hk] at h1
   simp only [if_neg (Ne.symm hk)] at h2
   by_cases hb0:n0=k
   ·rw [if_pos hb0] at h1; cases h1
   ·rw [if_neg hb0] at h1
    exact .inr ⟨k,ek,z,h1,huk,h2,rfl⟩
 ·intro k ek z h1 h2
  simp only [halloc,tget_tset] at h1
  by_cases hk:nm=k
  ·subst hk
   simp only [if_true] at h2
   cases h2
   exact .inr ⟨n0,e,y,he,hx,rfl⟩
  ·rw [if_neg hk] at h1
   simp only [if_neg (Ne.symm hk)] at h2
   by_cases hb0:n0=k
   ·rw [if_pos hb0] at h1; cases h1
   ·rw [if_neg hb0] at h1
    exact .inr ⟨k,ek,z,h1,h2,rfl⟩
end Go.Ev
