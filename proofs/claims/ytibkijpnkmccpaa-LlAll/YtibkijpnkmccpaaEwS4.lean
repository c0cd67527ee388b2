import Derived.Test.YtibkijpnkmccpaaEwS1
import Derived.Test.YtibkijpnkmccpaaEvDraw4
import Derived.KernelRfl
import Derived.IntWalk
set_option linter.unusedVariables false
set_option linter.unusedSimpArgs false
namespace Go.Ew
open Go.Ev Go.Deep
section
variable {ν : Nat -> Nat} {T : TS} {B : BX} {H H0 : KH} {M : Tm} {h h0 : Hp}
theorem wWant_sound {ops:Array Oper} {o:Oper} {yes no:TS->Prop} (R:Rl ν T B H M h) (hw:wWant ops o T yes no) :
 (wantA ops o M=some true/\∃ T',Rl ν T' B H M h/\yes T')\/(wantA ops o M=some false/\∃ T',Rl ν T' B H M h/\no T'):=by
 unfold wWant at hw
 unfold wantA
 split at hw
 .rename_i hg
  rw [hg]
  exact .inl ⟨rfl,T,R,hw⟩
 .rename_i j want hg
  rw [hg]
  simp only
  split at hw
  .exact hw.elim
  .rename_i d hd
   simp only [hd]
   cases hu:isUndef (tget T d) with
   | true =>
     rw [hu,cond_true] at hw
     unfold isUndef at hu
     split at hu
     .rename_i vs hs
      have h1:tget M d=some (den ν (.v (.tuple vs))):=R.tmp d _ hs
      have h2:den ν (.v (.tuple vs)) = .tuple vs:=rfl
      rw [h1,h2]
      exact .inr ⟨rfl,T,R,hw⟩
     .cases hu
   | false =>
   rw [hu,cond_false] at hw
   have key:∀ (p q:SV->Prop),askB (tget T d) p q->∃ b,tget M d=some (.bool b)/\Rl ν (tset T d (some (.v (.bool b)))) B H M h/\(b=true->p (.v (.bool true)))/\(b=false->q (.v (.bool false))):=by
    intro p q ha
    unfold askB at ha
    split at ha
    .rename_i hs
     exact ⟨true,R.tmp d _ hs,R.told hs rfl,fun _=>ha,fun e=>by cases e⟩
    .rename_i hs
     exact ⟨false,R.tmp d _ hs,R.told hs rfl,fun e=>(by cases e),fun _=>ha⟩
    .rename_i b hs
     refine ⟨b,R.tmp d _ hs,R.told hs rfl,ha.1,ha.2⟩
    .exact ha.elim
   cases want with
   | true =>
     simp only at hw
     obtain ⟨b,h1,h2,h3,h4⟩:=key _ _ hw
     rw [h1]
     cases b with
     | true=>exact .inl ⟨rfl,_,h2,h3 rfl⟩
     | false=>exact .inr ⟨rfl,_,h2,h4 rfl⟩
   | false =>
     simp only at hw
     obtain ⟨b,h1,h2,h3,h4⟩:=key _ _ hw
     rw [h1]
     cases b with
     | true=>exact .inr ⟨rfl,_,h2,h3 rfl⟩
     | false=>exact .inl ⟨rfl,_,h2,h4 rfl⟩
theorem Rl.fresh (R:Rl ν T B H M h):H h.nxt=none:=by
 cases hk:H h.nxt with
 | none=>rfl
 | some e=>have:=R.know _ _ hk; rw [R.wf _ (Nat.le_refl _)] at this; cases this
theorem undef_den (ν:Nat->Nat):den ν (.v undefV)=undefV:=rfl
theorem strArg_run {W:WE} {o:Oper} {s:ByteArray} {call:Nat->List Value->Hp->Option (Value × Hp)} (R:Rl ν T B H M h) (hs:strArg W o T=some s) (hle:s.size<=1000000) :
 xop W.E call h.nxt o M h=some (.slice (some ⟨h.nxt,0,none⟩) s.size unkU,halloc h h.nxt (mkEnt (byteCells s) 1)):=by
 unfold strArg at hs
 split at hs
 .rename_i sr d x ho
  split at hs
  .rename_i b hb
   split at hs
   .rename_i ti si hti hsi
    cases hk:Nat.beq ti.kind 1<;>simp only [hk,cond_true,cond_false,reduceCtorEq] at hs
    split at hs
    .rename_i ei hei
     cases hq:(Nat.beq ei.kind 6&&Nat.beq ei.size 1)<;>simp only [hq,cond_true,cond_false,reduceCtorEq,Option.some.injEq] at hs
     subst hs
     have h1:(Nat.beq h.nxt h.nxt&&Nat.ble b.size 1000000)=true:=by
      simp only [Bool.and_eq_true]
      exact ⟨by simp,Nat.ble_eq_true_of_le hle⟩
     simp only [xop,xopR,ho,xConv,R.opW hb,hti,hsi,hei,ob,hk,hq,cond_true,xStrB,h1]
    .cases hs
   .cases hs
  .cases hs
 .cases hs
theorem wOps_sound {W:WE} (hE:EnvT W.E) {ops:Array Oper} {K:TS->BX->KH->Prop}:∀ (l:List Oper) {ν:Nat->Nat} {T:TS} {B:BX} {H:KH} {M:Tm} {h:Hp},wOps W ops l T B H K->Rl ν T B H M h->Fr H0 h0 ν B H h->
 ∃ T' B' H' ν' M' h',(∃ n,∀ m,n<=m->xops W.E (callA W.E (ev W.E m)) ops l M h=some (M',h'))/\Rl ν' T' B' H' M' h'/\Fr H0 h0 ν' B' H' h'/\K T' B' H'
 | [],ν,T,B,H,M,h,hw,R,F=>⟨T,B,H,ν,M,h,⟨0,fun _ _=>rfl⟩,R,F,hw⟩
 | o :: l,ν,T,B,H,M,h,hw,R,F=>by
   simp only [wOps] at hw
   rcases wWant_sound R hw with ⟨h1,T1,R1,h2⟩ | ⟨h1,T1,R1,h2⟩
   .unfold wOpB at h2
    split at h2
    .rename_i s hs
     obtain ⟨hle,hk⟩:=h2
     have hk:=hk _ R.fresh
     have hf:tget h.m h.nxt=none:=R.wf _ (Nat.le_refl _)
     have hnb:∀ b cs,tget B b=some cs->ν b≠h.nxt:=fun b cs q e=>by have:=R.lt b cs q; omega
     have hx:∀ m,xop W.E (callA W.E (ev W.E m)) h.nxt o M h=some (den ν (.v (.slice (some ⟨h.nxt,0,none⟩) s.size unkU)),halloc h h.nxt (mkEnt (byteCells s) 1)):=fun m=>strArg_run R1 hs hle
     obtain ⟨T3,B3,H3,ν3,M3,h3,⟨n2,hr2⟩,R3,F3,k3⟩:=wOps_sound hE l hk ((R1.alloc (e:=mkEnt (byteCells s) 1) hf hnb).put o.dst _) (F.alloc F.nxt)
     refine ⟨T3,B3,H3,ν3,M3,h3,⟨n2,fun m hm=>?_⟩,R3,F3,k3⟩
     simp only [xops,h1,hx m,hr2 m hm]
    obtain ⟨s,T2,B2,H2,ν2,hp2,d⟩:=wOp_sound hE h2 R1 F (nm:=h.nxt) (fun k q=>q _ R.fresh) (fun _=>⟨R.wf _ (Nat.le_refl _),R.fresh,fun b cs q e=>(by have:=R.lt b cs q; omega),F.nxt⟩)
    obtain ⟨n1,hr1⟩:=d.run
    obtain ⟨T3,B3,H3,ν3,M3,h3,⟨n2,hr2⟩,R3,F3,k3⟩:=wOps_sound hE l d.post (d.rl.put o.dst s) d.fr
    refine ⟨T3,B3,H3,ν3,M3,h3,⟨max n1 n2,fun m hm=>?_⟩,R3,F3,k3⟩
    simp only [xops,h1,hr1 m (by omega),hr2 m (by omega)]
   .obtain ⟨T3,B3,H3,ν3,M3,h3,⟨n2,hr2⟩,R3,F3,k3⟩:=wOps_sound hE l h2 (R1.put o.dst (.v undefV)) F
    refine ⟨T3,B3,H3,ν3,M3,h3,⟨n2,fun m hm=>?_⟩,R3,F3,k3⟩
    have:=hr2 m hm
    rw [undef_den] at this
    simp only [xops,h1,this]
theorem xop_any {E:Env} {c1 c2:Nat->List Value->Hp->Option (Value × Hp)} {nm:Nat} {o:Oper} (ho:silB o.op=true\/allB o.op=true):xop E c1 nm o M h=xop E c2 nm o M h:=by
 unfold xop
 cases hop:o.op<;>simp only [xopR,hop]
 rename_i c
 rw [hop] at ho
 unfold xCall
 cases hc:c.callee<;>simp only
 all_goals
  simp only [silB,allB,hc] at ho
  rcases ho with q | q<;>cases q
theorem all_name {E:Env} {call:Nat->List Value->Hp->Option (Value × Hp)} {nm:Nat} {o:Oper} {v:Value} {h':Hp} (ho:allB o.op=true) (hx:xop E call nm o M h=some (v,h')):v = .pointer (some ⟨nm,0,none⟩)\/∃ l c,v = .slice (some ⟨nm,0,none⟩) l c:=by
 cases hop:o.op<;>rw [hop] at ho<;>simp only [allB,Bool.false_eq_true] at ho
 case alloc t =>
  simp only [xop,xopR,xAlloc,hop] at hx
  obtain ⟨ti,k1,k2⟩:=ob_some hx
  cases k2
  exact .inl rfl
 case box t x =>
  simp only [xop,xopR,xBox,hop] at hx
  obtain ⟨u,k1,k2⟩:=ob_some hx
  obtain ⟨cs,k3,k4⟩:=ob_some k2
  cases k4
  exact .inl rfl
 case buildSlice t len parts =>
  simp only [xop,xopR,xBuildSlice,hop] at hx
  obtain ⟨ti,k1,k2⟩:=ob_some hx
  obtain ⟨ei,k3,k4⟩:=ob_some k2
  cases hq:(Nat.beq ti.kind 1&&Nat.ble (len*ei.size) 16777216&&Nat.ble len 16777216&&Nat.beq ei.zero.length ei.size)<;>simp only [hq,cond_true,cond_false,reduceCtorEq] at k4
  obtain ⟨ps,k5,k6⟩:=ob_some k4
  obtain ⟨cs,k7,k8⟩:=ob_some k6
  cases k8
  exact .inr ⟨_,_,rfl⟩
 case makeSlice t l c =>
  simp only [xop,xopR,xMake,hop] at hx
  split at hx
  .rename_i k1 n k2 k hl hc
   obtain ⟨ti,j1,j2⟩:=ob_some hx
   obtain ⟨ei,j3,j4⟩:=ob_some j2
   cases hq:(Nat.beq ti.kind 1&&decide (0<=n)&&decide (n<=k)&&decide (k<=1000000)&&Nat.ble ei.bytes 1000000&&Nat.beq ei.zero.length ei.size)<;>simp only [hq,cond_true,cond_false,reduceCtorEq] at j4
   cases j4
   exact .inr ⟨_,_,rfl⟩
  .cases hx
structure In (ops:Array Oper) (base:Nat) (X:List Nat) (A:List (Nat × Nat)) (ν:Nat->Nat) (B:BX) (H:KH) (h:Hp):Prop where
 nxt:base+ops.size<=h.nxt
 fresh:∀ i,i<ops.size->i∉X->tget h.m (base+i)=none
 names:∀ i,i<ops.size->H (base+i)≠none->(i,base+i)∈A
 boxes:∀ b cs,tget B b=some cs->∀ i,i<ops.size->ν b=base+i->∃ o,ops[i]? = some o/\o.dst=some b
 nms:∀ i nm,(i,nm)∈A->nm=base+i
theorem mem_addNm {o:Oper} {i j nm:Nat} {s:SV} {A:List (Nat × Nat)} (hm:(j,nm)∈addNm o i s A):(j,nm)∈A\/(j=i/\allB o.op=true/\nameOf s=some nm):=by
 unfold addNm at hm
 cases ha:allB o.op<;>rw [ha] at hm<;>simp only [cond_true,cond_false] at hm
 .exact .inl hm
 .split at hm
  .rename_i nm' hs
   rcases List.mem_cons.1 hm with e | e
   .cases e; exact .inr ⟨rfl,rfl,hs⟩
   .exact .inl e
  .exact .inl hm
theorem addNm_old {o:Oper} {i:Nat} {s:SV} {A:List (Nat × Nat)} {p:Nat × Nat} (hm:p∈A):p∈addNm o i s A:=by
 unfold addNm
 cases allB o.op<;>simp only [cond_true,cond_false]
 .exact hm
 .split
  .exact List.mem_cons_of_mem _ hm
  .exact hm
theorem addNm_new {o:Oper} {i nm:Nat} {s:SV} {A:List (Nat × Nat)} (ha:allB o.op=true) (hs:nameOf s=some nm):(i,nm)∈addNm o i s A:=by
 unfold addNm
 rw [ha,hs]
 simp
theorem name_den {ν:Nat->Nat} {s:SV} {k nm:Nat} (hs:nameOf s=some k) (hv:den ν s = .pointer (some ⟨nm,0,none⟩)\/∃ l c,den ν s = .slice (some ⟨nm,0,none⟩) l c):k=nm:=by
 cases s with
 | q b=>cases hs
 | r t o=>cases hs
 | v x =>
   simp only [den] at hv
   rcases hv with rfl | ⟨l,c,rfl⟩
   .cases hs; rfl
   .cases hs; rfl
theorem pre_one {W:WE} (hE:EnvT W.E) {ops:Array Oper} {base i:Nat} {X:List Nat} {A:List (Nat × Nat)} {o:Oper} {K:TS->SV->BX->KH->Prop} (hb0:h0.nxt<=base) (I:In ops base X A ν B H h) (R:Rl ν T B H M h) (F:Fr H0 h0 ν B H h)
 (ho:ops[i]? = some o) (hi:i∉X) (hk:silB o.op=true\/allB o.op=true) {nmP:(Nat->Prop)->Prop} (hn:∀ k:Nat->Prop,nmP k->H (base+i)=none->k (base+i)) (hw:wOp W nmP o T B H K) :
 ∃ s T' B' H' ν' h',xop W.E (fun _ _ _=>none) (base+i) o M h=some (den ν' s,h')/\Rl ν' T' B' H' M h'/\Fr H0 h0 ν' B' H' h'/\K T' s B' H'/\In ops base (i :: X) (addNm o i s A) ν' B' H' h':=by
 have hlt:i<ops.size:=lt_of_get ho
 have hf:=I.fresh i hlt hi
 have hHn:H (base+i)=none:=by
  cases hq:H (base+i) with
  | none=>rfl
  | some e=>have:=R.know _ _ hq; rw [hf] at this; cases this
 have hnb:∀ b cs,tget B b=some cs->ν b≠base+i:=fun b cs q e=>by
  obtain ⟨e',h1,_⟩:=R.box b cs q
  rw [e,hf] at h1; cases h1
 have hnx:base+i<h.nxt:=by have:=I.nxt; omega
 obtain ⟨s,T',B',H',ν',h',d⟩:=wOp_sound hE hw R F (nm:=base+i) (fun k q=>hn k q hHn) (fun _=>⟨hf,hHn,hnb,by omega⟩)
 obtain ⟨n,hr⟩:=d.run
 have hx:=hr n (Nat.le_refl _)
 rw [xop_any (c2:=fun _ _ _=>none) hk] at hx
 refine ⟨s,T',B',H',ν',h',hx,d.rl,d.fr,d.post,?_⟩
 obtain ⟨q1,q2,q3⟩:=one_heap hk hf hnx hx
 refine ⟨by rw [q3]; exact I.nxt,fun j hj hjx=>?_,fun j hj hjn=>?_,fun b cs q j hj e=>?_,fun j nm hm=>?_⟩
 .cases hq:tget h'.m (base+j) with
  | none=>rfl
  | some e =>
    have hne:j≠i:=fun e1=>hjx (by simp [e1])
    have hjx':j∉X:=fun e1=>hjx (by simp [e1])
    have:=q2 _ _ hq (I.fresh j hj hjx')
    omega
 .rcases d.quiet hk _ hjn with q | ⟨q,q4,q5⟩
  .exact addNm_old (I.names j hj q)
  .have:j=i:=by omega
   subst this
   rw [q]
   rw [q] at *
   exact addNm_new q4 q5
 .rcases d.boxes b cs q with ⟨g1,cs0,g2⟩ | ⟨g1,g2⟩
  .exact I.boxes b cs0 g2 j hj (by rw [<- g1]; exact e)
  .have:j=i:=by omega
   subst this
   exact ⟨o,ho,g2⟩
 .rcases mem_addNm hm with q | ⟨rfl,q4,q5⟩
  .exact I.nms j nm q
  .exact name_den q5 (all_name q4 hx)
theorem wPre_sound {W:WE} (hE:EnvT W.E) {ops:Array Oper} {base:Nat} (hb0:h0.nxt<=base) {K:List Nat->List (Nat × Nat)->TS->BX->KH->Prop}:∀ (l:List Nat) {X:List Nat} {A:List (Nat × Nat)} {ν:Nat->Nat} {T:TS} {B:BX} {H:KH} {M:Tm} {h:Hp},
 wPre W ops l X A T B H K->In ops base X A ν B H h->Rl ν T B H M h->Fr H0 h0 ν B H h->
 ∃ X' A' T' B' H' ν' M' h',xpre W.E ops base l M h=some (M',h')/\Rl ν' T' B' H' M' h'/\Fr H0 h0 ν' B' H' h'/\In ops base X' A' ν' B' H' h'/\K X' A' T' B' H'
 | [],X,A,ν,T,B,H,M,h,hw,I,R,F=>⟨X,A,T,B,H,ν,M,h,rfl,R,F,I,hw⟩
 | i :: l,X,A,ν,T,B,H,M,h,hw,I,R,F=>by
   simp only [wPre] at hw
   split at hw
   .exact hw.elim
   .rename_i o ho
    cases hq:((silB o.op||allB o.op)&&!(memN i X))<;>simp only [hq,cond_true,cond_false] at hw
    simp only [Bool.and_eq_true,Bool.or_eq_true,Bool.not_eq_true'] at hq
    have hi:i∉X:=fun e=>by rw [memN_iff.2 e] at hq; cases hq.2
    have hf:=I.fresh i (lt_of_get ho) hi
    rcases wWant_sound R hw with ⟨h1,T1,R1,h2⟩ | ⟨h1,T1,R1,h2⟩
    .obtain ⟨s,T2,B2,H2,ν2,hp2,hx,R2,F2,k2,I2⟩:=pre_one hE hb0 I R1 F ho hi hq.1 (nmP:=anyNm H) (fun k q hn=>q _ hn) h2
     obtain ⟨X3,A3,T3,B3,H3,ν3,M3,h3,hr,R3,F3,I3,k3⟩:=wPre_sound hE hb0 l k2 I2 (R2.put o.dst s) F2
     refine ⟨X3,A3,T3,B3,H3,ν3,M3,h3,?_,R3,F3,I3,k3⟩
     simp only [xpre,ho,hf,h1,hx,hr]
    .have I2:In ops base (i :: X) A ν B H h:=⟨I.nxt,fun j hj q=>I.fresh j hj (fun e=>q (by simp [e])),I.names,I.boxes,I.nms⟩
     obtain ⟨X3,A3,T3,B3,H3,ν3,M3,h3,hr,R3,F3,I3,k3⟩:=wPre_sound hE hb0 l h2 I2 (R1.put o.dst (.v undefV)) F
     refine ⟨X3,A3,T3,B3,H3,ν3,M3,h3,?_,R3,F3,I3,k3⟩
     rw [undef_den] at hr
     simp only [xpre,ho,hf,h1,hr]
theorem eqS0_refl {v:Value} (h:okS0 v=true):eqS0 v v=true:=by
 cases v<;>first | (cases h; done) | simp [eqS0]
 case pointer a=>cases a<;>simp [eqS0]
 case slice a l c=>cases a<;>simp [eqS0]
 case map a=>cases a<;>simp [eqS0]
theorem eqV0_of {v:Value} (h:okS0 v=true):eqV0 v v=true:=by
 cases v<;>first | (cases h; done) | exact eqS0_refl h
theorem eqLV0_refl:∀ {l:List Value},l.all okS0=true->eqLV0 l l=true
 | [],_=>rfl
 | v :: l,h=>by
   simp only [List.all_cons,Bool.and_eq_true] at h
   simp only [eqLV0,eqV0_of h.1,eqLV0_refl h.2,Bool.and_self]
theorem eqS_of {v:Value} (h:okS0 v=true):eqS v v=true:=by
 cases v<;>first | (cases h; done) | exact eqS0_refl h
theorem eqL_refl:∀ {l:List Value},l.all okS0=true->eqL l l=true
 | [],_=>rfl
 | v :: l,h=>by
   simp only [List.all_cons,Bool.and_eq_true] at h
   simp only [eqL,eqS_of h.1,eqL_refl h.2,Bool.and_self]
theorem eqV_refl {v:Value} (h:okV v=true):eqV v v=true:=by
 cases v with
 | agg cs=>exact eqL_refl h
 | func fn a b =>
   cases fn<;>first
    | (cases h; done)
    | (simp only [okV,Bool.and_eq_true] at h
       simp only [eqV,eqS,eqLV0_refl h.1,eqLV0_refl h.2,Bool.and_self,Bool.and_true]
       simp)
 | _=>first | (cases h; done) | (simp only [okV] at h; simp only [eqV]; exact eqS_of h)
theorem same_eqV {ν:Nat->Nat} {s u:SV} (hs:sameS s (some u)):eqV (den ν u) (den ν s)=true:=by
 cases s<;>cases u<;>simp only [sameS] at hs
 case v.v x y =>
  cases hk:okV y<;>rw [hk] at hs
  .exact hs.elim
  .have e:x=y:=hs
   subst e
   exact eqV_refl hk
 case v.q x b=>subst hs; exact eqV_refl rfl
 case q.v b y =>
  cases hk:okV y<;>rw [hk] at hs
  .exact hs.elim
  .have e:Value.bool b=y:=hs
   subst e
   exact eqV_refl rfl
 case q.q a b=>subst hs; exact eqV_refl rfl
 case r.r a b c d=>obtain ⟨rfl,rfl⟩:=hs; exact eqV_refl rfl
theorem wRe_sound {W:WE} (hE:EnvT W.E) {ops:Array Oper} {base:Nat}:∀ (l:List Nat),wRe W ops T B H l->Rl ν T B H M h->xre W.E ops base M h l=true
 | [],_,_=>rfl
 | i :: l,hw,R=>by
   simp only [wRe] at hw
   split at hw
   .exact hw.elim
   .rename_i o ho
    have ih:=wRe_sound hE l hw.2 R (base:=base)
    have h1:=hw.1
    cases hsil:silB o.op<;>rw [hsil] at h1<;>simp only [cond_true,cond_false] at h1
    simp only [xre,ho]
    rcases wWant_sound R h1 with ⟨g1,T1,R1,g2⟩ | ⟨g1,T1,R1,g2⟩
    .have hallB:allB o.op=false:=by cases hop:o.op<;>rw [hop] at hsil<;>first | rfl | cases hsil
     obtain ⟨s,T',B',H',ν',h',d⟩:=wOp_sound (H0:=fun _=>none) (h0:=⟨.nil,0⟩) hE g2 R1 ⟨Nat.zero_le _,fun k q=>absurd q (Nat.not_lt_zero k),fun k _=>.inr (Nat.zero_le _),fun _ _ _=>Nat.zero_le _⟩ (nm:=base+i) (fun k q=>q.elim) (fun e=>by rw [hsil] at e; cases e)
     obtain ⟨n,hr⟩:=d.run
     have hν:=d.nu hallB
     subst hν
     have hx2:=hr n (Nat.le_refl _)
     rw [xop_any (c2:=fun _ _ _=>none) (.inl hsil)] at hx2
     rw [g1]
     simp only [hx2]
     cases hd:o.dst with
     | none=>exact ih
     | some dd =>
       have hp:=d.post
       rw [hd] at hp
       simp only at hp
       cases hu:tget T1 dd with
       | none=>rw [hu] at hp; cases s<;>exact hp.elim
       | some u =>
         rw [hu] at hp
         simp only [R1.tmp dd u hu,same_eqV hp,Bool.true_and]
         exact ih
    .rw [g1]
     simp only
     cases hd:o.dst with
     | none=>exact ih
     | some dd =>
       rw [hd] at g2
       simp only at g2
       cases hu:isUndef (tget T1 dd)<;>rw [hu] at g2
       .exact g2.elim
       .unfold isUndef at hu
        split at hu
        .rename_i vs hs
         simp only [R1.tmp dd _ hs,den]
         have:Nat.beq vs.size 0=true:=hu
         rw [this,Bool.true_and]
         exact ih
        .cases hu
end
end Go.Ew
namespace Go.Ew
open Go.Ev Go.Deep
theorem hideK_get (H:KH) (k:Nat):∀ l:List Nat,hideK H l k=if k∈l then none else H k
 | []=>by simp [hideK]
 | n :: l=>by
   simp only [hideK,KH.del,List.mem_cons]
   rw [hideK_get H k l]
   by_cases e:k=n
   .simp [e]
   .simp [e]
theorem backK_get (H H':KH) (k:Nat):∀ l:List Nat,backK H H' l k=if k∈l then H k else H' k
 | []=>by simp [backK]
 | n :: l=>by
   simp only [backK,List.mem_cons]
   rw [backK_get H H' k l]
   by_cases e:k=n
   .simp [e]
   .simp [e]
theorem mem_hidden {hide:List Nat} {nm:Nat}:∀ {A:List (Nat × Nat)},nm∈hidden hide A↔∃ i,(i,nm)∈A/\i∈hide
 | []=>by simp [hidden]
 | (i,n) :: A=>by
  simp only [hidden]
  cases hm:memN i hide with
  | true =>
    simp only [cond_true,List.mem_cons,mem_hidden (A:=A),Prod.mk.injEq]
    constructor
    .rintro (rfl | ⟨j,h1,h2⟩)
     .exact ⟨i,.inl ⟨rfl,rfl⟩,memN_iff.1 hm⟩
     .exact ⟨j,.inr h1,h2⟩
    .rintro ⟨j,⟨rfl,rfl⟩ | h1,h2⟩
     .exact .inl rfl
     .exact .inr ⟨j,h1,h2⟩
  | false =>
    simp only [cond_false,mem_hidden (A:=A),List.mem_cons,Prod.mk.injEq]
    constructor
    .rintro ⟨j,h1,h2⟩; exact ⟨j,.inr h1,h2⟩
    .rintro ⟨j,⟨rfl,rfl⟩ | h1,h2⟩
     .rw [memN_iff.2 h2] at hm; cases hm
     .exact ⟨j,h1,h2⟩
section
variable {ν : Nat -> Nat} {T : TS} {B : BX} {H H0 : KH} {M : Tm} {h h0 : Hp}
theorem Rl.congr (R:Rl ν T B H M h) {h1:Hp} (hm:∀ k,tget h1.m k=tget h.m k) (hn:h1.nxt=h.nxt):Rl ν T B H M h1 where
 tmp:=R.tmp
 box b cs q:=by obtain ⟨e,g1,g2⟩:=R.box b cs q; exact ⟨e,by rw [hm]; exact g1,g2⟩
 lt b cs q:=by rw [hn]; exact R.lt b cs q
 apart:=R.apart
 inj:=R.inj
 know k e q:=by rw [hm]; exact R.know k e q
 wf k q:=by rw [hm]; exact R.wf k (by rw [<- hn]; exact q)
theorem Fr.congr (F:Fr H0 h0 ν B H h) {h1:Hp} (hm:∀ k,tget h1.m k=tget h.m k) (hn:h1.nxt=h.nxt):Fr H0 h0 ν B H h1 :=
 ⟨by rw [hn]; exact F.nxt,fun k q1 q2=>by rw [hm]; exact F.keep k q1 q2,F.new,F.box⟩
theorem loud_far {W:WE} (hE:EnvT W.E) {ops:Array Oper} {base:Nat} {X:List Nat} {A:List (Nat × Nat)} {o:Oper} {hide:List Nat} {K:TS->SV->KH->Prop} (hb0:h0.nxt<=base) (I:In ops base X A ν B H h) (R:Rl ν T B H M h) (F:Fr H0 h0 ν B H h)
 (hh:∀ i∈hide,i<ops.size) (hall:allB o.op=false) (hw:wOp W (anyNm H) o T .nil (hideK H (hidden hide A)) fun T s _ H'=>K T s H') :
 ∃ s T' H' h2,(∃ n,∀ m,n<=m->xop W.E (callA W.E (ev W.E m)) h.nxt o M ⟨hideAll base h.m hide,h.nxt⟩=some (den ν s,h2))/\
  Rl ν T' B (backK H H' (hidden hide A)) M ⟨backAll base h.m h2.m hide,h2.nxt⟩/\Fr H0 h0 ν B (backK H H' (hidden hide A)) ⟨backAll base h.m h2.m hide,h2.nxt⟩/\K T' s H'/\
  In ops base X A ν B (backK H H' (hidden hide A)) ⟨backAll base h.m h2.m hide,h2.nxt⟩/\∀ k∈hidden hide A,H' k=none:=by
 -- names that are hidden
 have hn1:∀ k,H k≠none->(∃ i∈hide,k=base+i)->k∈hidden hide A:=by
  rintro k hk ⟨i,hi,rfl⟩
  exact mem_hidden.2 ⟨i,I.names i (hh i hi) hk,hi⟩
 have hn2:∀ k,k∈hidden hide A->∃ i∈hide,k=base+i:=by
  intro k hk
  obtain ⟨i,h1,h2⟩:=mem_hidden.1 hk
  exact ⟨i,h2,I.nms i k h1⟩
 have hdec:∀ k,(∃ i∈hide,k=base+i)\/(∀ i∈hide,k≠base+i):=by
  intro k
  rcases Classical.em (∃ i∈hide,k=base+i) with q | q
  .exact .inl q
  .exact .inr fun i hi e=>q ⟨i,hi,e⟩
 have hltn:∀ k,(∃ i∈hide,k=base+i)->k<h.nxt/\base<=k:=by
  rintro k ⟨i,hi,rfl⟩
  have:=hh i hi
  have:=I.nxt
  omega
 have Rh:Rl ν T .nil (hideK H (hidden hide A)) M ⟨hideAll base h.m hide,h.nxt⟩:=by
  refine ⟨R.tmp,fun b cs q=>(by cases q),fun b cs q=>(by cases q),fun b cs q=>(by cases q),fun b b' cs cs' q=>(by cases q),fun k e q=>?_,fun k q=>?_⟩
  .rw [hideK_get] at q
   split at q
   .cases q
   .rename_i hk
    rcases hdec k with g | g
    .exact absurd (hn1 k (by rw [q]; simp) g) hk
    .rw [hide_get.2 g]; exact R.know k e q
  .rcases hdec k with g | g
   .exact hide_get.1 g
   .rw [hide_get.2 g]; exact R.wf k q
 have Fh:Fr H0 h0 ν .nil (hideK H (hidden hide A)) ⟨hideAll base h.m hide,h.nxt⟩:=by
  refine ⟨F.nxt,fun k q1 q2=>?_,fun k q=>?_,fun b cs q=>(by cases q)⟩
  .have g:∀ i∈hide,k≠base+i:=fun i _ e=>by omega
   rw [hide_get.2 g]
   exact F.keep k q1 q2
  .rw [hideK_get] at q
   split at q
   .exact absurd rfl q
   .exact F.new k q
 obtain ⟨s,T',B',H',ν',h2,d⟩:=wOp_sound hE hw Rh Fh (nm:=h.nxt) (fun k q=>q _ R.fresh) (fun _=>⟨Rh.wf _ (Nat.le_refl _),Rh.fresh,fun b cs q=>(by cases q),F.nxt⟩)
 have hν:=d.nu hall
 subst hν
 have hup:h.nxt<=h2.nxt:=d.xt.up
 have hnew:∀ k,k<h.nxt->H' k≠none->H k≠none/\k∉hidden hide A:=by
  intro k hk hq
  rcases d.xt.newk k hq with g | g | g
  .rw [hideK_get] at g
   split at g
   .exact absurd rfl g
   .rename_i hm; exact ⟨g,hm⟩
  .omega
  .have:h.nxt<=k:=g; omega
 have hnone:∀ k,H k=none->hideK H (hidden hide A) k=none:=by
  intro k hk
  rw [hideK_get]
  split
  .rfl
  .exact hk
 have hkeep:∀ k,k<h.nxt->H k=none->tget (backAll base h.m h2.m hide) k=tget h.m k:=by
  intro k hk hq
  rcases hdec k with g | g
  .exact back_get.1 g
  .rw [back_get.2 g]
   have:=d.xt.keepk k hk (hnone k hq) (by omega) (fun b cs q=>(by cases q))
   rw [this]
   exact hide_get.2 g
 refine ⟨s,T',H',h2,d.run,?_,?_,d.post,?_,fun k hk=>?_⟩
 case refine_4 =>
  cases hq:H' k with
  | none=>rfl
  | some e=>exact absurd hk (hnew k (hltn k (hn2 k hk)).1 (by rw [hq]; simp)).2
 .refine ⟨d.rl.tmp,fun b cs q=>?_,fun b cs q=>Nat.lt_of_lt_of_le (R.lt b cs q) hup,fun b cs q=>?_,R.inj,fun k e q=>?_,fun k q=>?_⟩
  .obtain ⟨e,g1,g2⟩:=R.box b cs q
   refine ⟨e,?_,g2⟩
   show tget (backAll base h.m h2.m hide) (ν' b)=some e
   rw [hkeep _ (R.lt b cs q) (R.apart b cs q)]
   exact g1
  .rw [backK_get]
   split
   .exact R.apart b cs q
   .cases hq:H' (ν' b) with
    | none=>rfl
    | some e=>exact absurd (R.apart b cs q) (hnew _ (R.lt b cs q) (by rw [hq]; simp)).1
  .rw [backK_get] at q
   show tget (backAll base h.m h2.m hide) k=some e
   split at q
   .rename_i hm
    rw [back_get.1 (hn2 k hm)]
    exact R.know k e q
   .rename_i hm
    rcases hdec k with g | g
    .have:=hnew k (hltn k g).1 (by rw [q]; simp)
     exact absurd (hn1 k this.1 g) hm
    .rw [back_get.2 g]; exact d.rl.know k e q
  .show tget (backAll base h.m h2.m hide) k=none
   have q':h2.nxt<=k:=q
   have g:∀ i∈hide,k≠base+i:=fun i hi e=>by have:=hh i hi; have:=I.nxt; omega
   rw [back_get.2 g]
   exact d.rl.wf k q'
 .refine ⟨Nat.le_trans F.nxt hup,fun k q1 q2=>?_,fun k q=>?_,F.box⟩
  .show tget (backAll base h.m h2.m hide) k=_
   have g:∀ i∈hide,k≠base+i:=fun i _ e=>by omega
   rw [back_get.2 g]
   exact d.fr.keep k q1 q2
  .rw [backK_get] at q
   split at q
   .rename_i hm
    exact .inr (Nat.le_trans hb0 (hltn k (hn2 k hm)).2)
   .exact d.fr.new k q
 .refine ⟨Nat.le_trans I.nxt hup,fun i hi hx=>?_,fun i hi hq=>?_,I.boxes,I.nms⟩
  .show tget (backAll base h.m h2.m hide) (base+i)=none
   have hf:=I.fresh i hi hx
   have hHn:H (base+i)=none:=by
    cases hq:H (base+i) with
    | none=>rfl
    | some e=>have:=R.know _ _ hq; rw [hf] at this; cases this
   rw [hkeep _ (by have:=I.nxt; omega) hHn]
   exact hf
  .rw [backK_get] at hq
   split at hq
   .exact I.names i hi hq
   .exact I.names i hi (hnew _ (by have:=I.nxt; omega) hq).1
theorem loud_one {W:WE} (hE:EnvT W.E) {ops:Array Oper} {base:Nat} {X:List Nat} {A:List (Nat × Nat)} {o:Oper} {hide:List Nat} {K:TS->SV->BX->KH->Prop} (hb0:h0.nxt<=base) (I:In ops base X A ν B H h) (R:Rl ν T B H M h) (F:Fr H0 h0 ν B H h)
 (hl:loudOk ops T o hide=true) (hw:wOp W (anyNm H) o T B (hideK H (hidden hide A)) K) :
 ∃ s T' B' H' h2,(∃ n,∀ m,n<=m->xop W.E (callA W.E (ev W.E m)) h.nxt o M ⟨hideAll base h.m hide,h.nxt⟩=some (den ν s,h2))/\
  Rl ν T' B' (backK H H' (hidden hide A)) M ⟨backAll base h.m h2.m hide,h2.nxt⟩/\Fr H0 h0 ν B' (backK H H' (hidden hide A)) ⟨backAll base h.m h2.m hide,h2.nxt⟩/\K T' s B' H'/\
  In ops base X A ν B' (backK H H' (hidden hide A)) ⟨backAll base h.m h2.m hide,h2.nxt⟩/\∀ k∈hidden hide A,H' k=none:=by
 unfold loudOk at hl
 simp only [Bool.and_eq_true,List.all_eq_true] at hl
 obtain ⟨hh0,hl⟩:=hl
 have hh:∀ i∈hide,i<ops.size:=fun i hi=>Nat.le_of_ble_eq_true (hh0 i hi)
 have far:allB o.op=false->wOp W (anyNm H) o T .nil (hideK H (hidden hide A)) (fun T s _ H'=>K T s B H')->_:=fun h1 h2=>loud_far (K:=fun T s H'=>K T s B H') hE hb0 I R F hh h1 h2
 have out:(∃ s T' H' h2,(∃ n,∀ m,n<=m->xop W.E (callA W.E (ev W.E m)) h.nxt o M ⟨hideAll base h.m hide,h.nxt⟩=some (den ν s,h2))/\
  Rl ν T' B (backK H H' (hidden hide A)) M ⟨backAll base h.m h2.m hide,h2.nxt⟩/\Fr H0 h0 ν B (backK H H' (hidden hide A)) ⟨backAll base h.m h2.m hide,h2.nxt⟩/\K T' s B H'/\
  In ops base X A ν B (backK H H' (hidden hide A)) ⟨backAll base h.m h2.m hide,h2.nxt⟩/\∀ k∈hidden hide A,H' k=none)->∃ s T' B' H' h2,(∃ n,∀ m,n<=m->xop W.E (callA W.E (ev W.E m)) h.nxt o M ⟨hideAll base h.m hide,h.nxt⟩=some (den ν s,h2))/\
  Rl ν T' B' (backK H H' (hidden hide A)) M ⟨backAll base h.m h2.m hide,h2.nxt⟩/\Fr H0 h0 ν B' (backK H H' (hidden hide A)) ⟨backAll base h.m h2.m hide,h2.nxt⟩/\K T' s B' H'/\
  In ops base X A ν B' (backK H H' (hidden hide A)) ⟨backAll base h.m h2.m hide,h2.nxt⟩/\∀ k∈hidden hide A,H' k=none:=fun ⟨s,T',H',h2,q⟩=>⟨s,T',B,H',h2,q⟩
 split at hl
 .
  rename_i t a x ho
  simp only [wOp,ho] at hw
  cases hs:opS T a with
  | none=>unfold wStore at hw; rw [hs] at hw; exact hw.elim
  | some sa =>
    cases sa with
    | q b=>unfold wStore at hw; rw [hs] at hw; exact hw.elim
    | v p =>
      refine out (far (by rw [ho]; rfl) ?_)
      simp only [wOp,ho]
      unfold wStore at hw ⊢
      rw [hs] at hw ⊢
      split at hw
      .rename_i e1 _ _; cases e1
      .rename_i ad v ti e1 hv hti
       cases e1
       simp only [hv,hti]
       exact hw
      .exact hw.elim
    | r b off =>
      rw [hs] at hl
      simp only [List.all_eq_true] at hl
      unfold wStore at hw
      rw [hs] at hw
      simp only at hw
      split at hw
      .rename_i b1 off1 v ti e1 hv hti
       cases e1
       split at hw
       .rename_i cs vs hcs hvs
        cases hq:(Nat.beq vs.length ti.size&&Nat.ble (off+vs.length) cs.length)<;>simp only [hq,cond_true,cond_false] at hw
        simp only [Bool.and_eq_true] at hq
        have hle:=Nat.le_of_ble_eq_true hq.2
        have hvis:∀ i∈hide,ν b≠base+i:=fun i hi e=>by
         obtain ⟨o',h1,h2⟩:=I.boxes b cs hcs i (hh i hi) e
         have:=hl i hi
         rw [h1] at this
         simp only [Option.bind_some,h2] at this
         simp at this
        obtain ⟨h',g1,g2,g3,g4⟩:=R.wrBox (vs:=vs) hcs hle
        obtain ⟨e,he1,he2,he3⟩:=R.box b cs hcs
        have hrd:=R.rdBox hcs hle
        have hst:hstore ⟨hideAll base h.m hide,h.nxt⟩ ⟨ν b,off,none⟩ vs=some ⟨tset (hideAll base h.m hide) (ν b) (some ⟨wr e.cells off vs,e.len,e.unk,none⟩),h.nxt⟩:=by
         unfold hstore
         unfold hload at hrd
         simp only [he1] at hrd
         simp only [hide_get.2 hvis,he1,hrd,he2,cond_true]
        have hst':hstore h ⟨ν b,off,none⟩ vs=some ⟨tset h.m (ν b) (some ⟨wr e.cells off vs,e.len,e.unk,none⟩),h.nxt⟩:=by
         unfold hstore
         unfold hload at hrd
         simp only [he1] at hrd
         simp only [he1,hrd,he2,cond_true]
        rw [hst'] at g1
        have g1:=Option.some.inj g1
        have hpt:∀ k,tget (backAll base h.m (tset (hideAll base h.m hide) (ν b) (some ⟨wr e.cells off vs,e.len,e.unk,none⟩)) hide) k=tget h'.m k:=by
         intro k
         rw [<- g1]
         show _=tget (tset h.m (ν b) _) k
         rcases Classical.em (∃ i∈hide,k=base+i) with q | q
         .rw [back_get.1 q,tget_tset_ne _ _ _ _ (fun e1=>by obtain ⟨i,hi,e2⟩:=q; exact hvis i hi (by omega))]
         .have q':∀ i∈hide,k≠base+i:=fun i hi e=>q ⟨i,hi,e⟩
          rw [back_get.2 q',tget_tset,tget_tset,hide_get.2 q']
        have hHH:backK H (hideK H (hidden hide A)) (hidden hide A)=H:=by
         funext k
         rw [backK_get,hideK_get]
         split<;>rfl
        refine ⟨.v undefV,T,tset B b (some (lput cs off vs)),hideK H (hidden hide A),⟨tset (hideAll base h.m hide) (ν b) (some ⟨wr e.cells off vs,e.len,e.unk,none⟩),h.nxt⟩,⟨0,fun m _=>?_⟩,?_,?_,hw,?_,fun k hk=>by rw [hideK_get,if_pos hk]⟩
        .simp only [xop,xopR,ho,xStore,R.op hs,R.opW hv,den,hti,hvs,ob,hq.1,cond_true,hst]
        .rw [hHH]
         exact g4.congr hpt g2.symm
        .rw [hHH]
         exact (F.wrBox hcs g2 g3).congr hpt g2.symm
        .rw [hHH]
         refine ⟨I.nxt,fun i hi hx=>?_,I.names,fun b' cs' q i hi e'=>?_,I.nms⟩
         .show tget (backAll base h.m _ hide) (base+i)=none
          rw [hpt,g3 _ (fun e1=>by have:=I.fresh i hi hx; rw [e1,he1] at this; cases this)]
          exact I.fresh i hi hx
         .rw [tget_tset] at q
          by_cases e1:b=b'
          .subst e1; exact I.boxes b cs hcs i hi e'
          .rw [if_neg e1] at q; exact I.boxes b' cs' q i hi e'
       .exact hw.elim
      .rename_i e1 _ _; cases e1
      .exact hw.elim
 .rename_i c ho
  refine out (far (by rw [ho]; rfl) ?_)
  simp only [wOp,ho] at hw ⊢
  exact hw
 .rename_i t r ho
  refine out (far (by rw [ho]; rfl) ?_)
  simp only [wOp,ho] at hw ⊢
  exact hw
 .rename_i t m k x ho
  refine out (far (by rw [ho]; rfl) ?_)
  simp only [wOp,ho] at hw ⊢
  exact hw
 .cases hl
theorem avoid_out {H:KH} {p:Prop}:∀ (l:List Nat),(∀ k∈l,H k=none)->avoid H l p->p
 | [],_,h=>h
 | n :: l,hv,h=>avoid_out l (fun k hk=>hv k (by simp [hk])) (h (hv n (by simp)))
theorem wStages_sound {W:WE} (hE:EnvT W.E) {ops:Array Oper} {base:Nat} (hb0:h0.nxt<=base) {K:TS->BX->KH->Prop}:∀ (l:List Stage) {X:List Nat} {A:List (Nat × Nat)} {ν:Nat->Nat} {T:TS} {B:BX} {H:KH} {M:Tm} {h:Hp},
 wStages W ops l X A T B H K->In ops base X A ν B H h->Rl ν T B H M h->Fr H0 h0 ν B H h->
 ∃ T' B' H' ν' M' h',(∃ n,∀ m,n<=m->xstages W.E (callA W.E (ev W.E m)) ops base l M h=some (M',h'))/\Rl ν' T' B' H' M' h'/\Fr H0 h0 ν' B' H' h'/\K T' B' H'
 | [],X,A,ν,T,B,H,M,h,hw,I,R,F=>⟨T,B,H,ν,M,h,⟨0,fun _ _=>rfl⟩,R,F,hw⟩
 | s :: l,X,A,ν,T,B,H,M,h,hw,I,R,F=>by
   simp only [wStages] at hw
   have hre:=wRe_sound hE s.re hw.1 R (base:=base)
   obtain ⟨X1,A1,T1,B1,H1,ν1,M1,h1,hr1,R1,F1,I1,k1⟩:=wPre_sound hE hb0 s.pre hw.2 I R F
   cases hl:s.loud with
   | none =>
     rw [hl] at k1
     simp only at k1
     cases l with
     | cons a b=>exact k1.elim
     | nil =>
       refine ⟨T1,B1,H1,ν1,M1,h1,⟨0,fun m _=>?_⟩,R1,F1,k1⟩
       simp only [xstages,hre,cond_true,hr1,hl]
   | some i =>
     rw [hl] at k1
     simp only at k1
     split at k1
     .exact k1.elim
     .rename_i o ho
      rcases wWant_sound R1 k1 with ⟨g1,T2,R2,g2⟩ | ⟨g1,T2,R2,g2⟩
      .cases hlo:loudOk ops T2 o s.hide<;>rw [hlo] at g2<;>simp only [cond_true,cond_false] at g2
       obtain ⟨sv,T3,B3,H3,h3,⟨n1,hr3⟩,R3,F3,k3,I3,v3⟩:=loud_one hE hb0 I1 R2 F1 hlo g2
       have k3:=avoid_out _ v3 k3
       obtain ⟨T4,B4,H4,ν4,M4,h4,⟨n2,hr4⟩,R4,F4,k4⟩:=wStages_sound hE hb0 l k3 I3 (R3.put o.dst sv) F3
       refine ⟨T4,B4,H4,ν4,M4,h4,⟨max n1 n2,fun m hm=>?_⟩,R4,F4,k4⟩
       simp only [xstages,hre,cond_true,hr1,hl,ho,g1,hr3 m (by omega),hr4 m (by omega)]
      .obtain ⟨T4,B4,H4,ν4,M4,h4,⟨n2,hr4⟩,R4,F4,k4⟩:=wStages_sound hE hb0 l g2 I1 (R2.put o.dst (.v undefV)) F1
       refine ⟨T4,B4,H4,ν4,M4,h4,⟨n2,fun m hm=>?_⟩,R4,F4,k4⟩
       have:=hr4 m hm
       rw [undef_den] at this
       simp only [xstages,hre,cond_true,hr1,hl,ho,g1,this]
end
end Go.Ew
namespace Go.Ew
open Go.Ev Go.Deep
theorem fixB_eq {u v:Value} (h:fixB u v=true):u=v:=by
 unfold fixB at h
 split at h<;>first | rfl | cases h
theorem bindS_use {R:Type} {s:Sh} {f:ShT s R} {v:Value} {K1:R->Prop} {K:Value->R->Prop} (hu:useS R s f v K1) (hb:bindS R s f K):∃ r,K1 r/\K v r:=by
 cases s with
 | int k =>
   cases v<;>try exact hu.elim
   rename_i k' x
   simp only [useS] at hu
   cases hk:kindB k k'<;>rw [hk] at hu
   .exact hu.elim
   .have:=kindB_eq hk
    subst this
    exact ⟨_,hu,hb x⟩
 | bool =>
   cases v<;>try exact hu.elim
   exact ⟨_,hu,hb _⟩
 | str =>
   cases v<;>try exact hu.elim
   exact ⟨_,hu,hb _⟩
 | slice =>
   cases v<;>try exact hu.elim
   exact ⟨_,hu,hb _ _ _⟩
 | ptr =>
   cases v<;>try exact hu.elim
   rename_i a
   cases a with
   | none=>exact hu.elim
   | some ad =>
     obtain ⟨b,o,sp⟩:=ad
     obtain ⟨h1,h2⟩:=hu
     cases h1
     exact ⟨_,h2,hb b o⟩
 | fn =>
   cases v<;>try exact hu.elim
   rename_i fn a b
   cases fn<;>try exact hu.elim
   rename_i g
   simp only [useS] at hu
   cases hq:(Nat.beq a.toList.length 0&&Nat.beq b.toList.length 0)<;>rw [hq] at hu
   .exact hu.elim
   .simp only [Bool.and_eq_true] at hq
    have e1:a = #[]:=Array.eq_empty_of_size_eq_zero (Nat.eq_of_beq_eq_true hq.1)
    have e2:b = #[]:=Array.eq_empty_of_size_eq_zero (Nat.eq_of_beq_eq_true hq.2)
    rw [e1,e2]
    exact ⟨_,hu,hb g⟩
 | fix u =>
   have hu':(bif fixB u v then K1 f else False):=by cases v<;>exact hu
   cases hq:fixB u v<;>rw [hq] at hu'
   .exact hu'.elim
   .rw [<- fixB_eq hq]
    exact ⟨_,hu',hb⟩
 | fnk =>
   cases v<;>try exact hu.elim
   rename_i fn a b
   cases fn<;>try exact hu.elim
   rename_i g
   simp only [useS] at hu
   cases hq:Nat.beq a.toList.length 0<;>rw [hq] at hu
   .exact hu.elim
   .have e1:a = #[]:=Array.eq_empty_of_size_eq_zero (Nat.eq_of_beq_eq_true hq)
    rw [e1]
    have:=hb g b.toList
    simp only [Array.toArray_toList] at this
    exact ⟨_,hu,this⟩
 | fnf =>
   cases v<;>try exact hu.elim
   rename_i fn a b
   cases fn<;>try exact hu.elim
   rename_i g
   simp only [useS] at hu
   cases hq:Nat.beq b.toList.length 0<;>rw [hq] at hu
   .exact hu.elim
   .have e1:b = #[]:=Array.eq_empty_of_size_eq_zero (Nat.eq_of_beq_eq_true hq)
    rw [e1]
    have:=hb g a.toList
    simp only [Array.toArray_toList] at this
    exact ⟨_,hu,this⟩
 | yld =>
   cases v<;>try exact hu.elim
   rename_i fn a b
   cases fn<;>try exact hu.elim
   rename_i g
   simp only [useS] at hu
   cases hq:(Nat.beq a.toList.length 0&&Nat.beq b.toList.length 0)<;>rw [hq] at hu
   .exact hu.elim
   .simp only [Bool.and_eq_true] at hq
    have e1:a = #[]:=Array.eq_empty_of_size_eq_zero (Nat.eq_of_beq_eq_true hq.1)
    have e2:b = #[]:=Array.eq_empty_of_size_eq_zero (Nat.eq_of_beq_eq_true hq.2)
    rw [e1,e2]
    exact ⟨_,hu,hb g⟩
 | map =>
   cases v<;>try exact hu.elim
   rename_i a
   cases a with
   | none=>exact hu.elim
   | some n=>exact ⟨_,hu,hb n⟩
theorem bindSs_use {R:Type}:∀ {zs:List Value} {f:ShsT zs R} {vs:List Value} {K1:R->Prop} {K:List Value->R->Prop},useSs R zs f vs K1->bindSs R zs f K->∃ r,K1 r/\K vs r
 | [],f,[],K1,K,hu,hb=>⟨f,hu,hb⟩
 | z :: l,f,v :: vs,K1,K,hu,hb=>by
   obtain ⟨r,h1,h2⟩:=bindS_use (K:=fun v f=>bindSs R l f fun vs f=>K (v :: vs) f) hu hb
   exact bindSs_use (K:=fun vs f=>K (v :: vs) f) h1 h2
 | [],f,_ :: _,K1,K,hu,hb=>hu.elim
 | _ :: _,f,[],K1,K,hu,hb=>hu.elim
theorem SubT.put {T0 T:TS} (hs:SubT T0 T) {t:Nat} {s s':SV} (ht:tget T t=some s') (he:∀ ν,den ν s=den ν s'):SubT (tset T0 t (some s)) T:=by
 intro u x hx
 rw [tget_tset] at hx
 by_cases e:t=u
 .rw [if_pos e] at hx
  cases hx
  subst e
  exact ⟨s',ht,he⟩
 .rw [if_neg e] at hx
  exact hs u x hx
theorem opW_tmp {T:TS} {t:Nat} {v:Value} (h:opW T (.tmp t)=some v):∃ s,tget T t=some s/\∀ ν,den ν s=v:=by
 unfold opW at h
 split at h
 .rename_i s hs
  exact ⟨s,hs,fun ν=>den_val h⟩
 .cases h
theorem bindL_use {H:KH} {T:TS} {B:BX}:∀ {l:List LV} {I:IT l} {T0:TS} {B0:BX} {K:(KH->Prop)->TS->BX->Prop},useL l I T B H->bindL l I T0 B0 K->SubT T0 T->SubB B0 B->∃ J T1 B1,K J T1 B1/\J H/\SubT T1 T/\SubB B1 B
 | [],I,T0,B0,K,hu,hb,ht,hB=>⟨I,T0,B0,hb,hu,ht,hB⟩
 | .tmp t s :: l,I,T0,B0,K,hu,hb,ht,hB=>by
   simp only [useL] at hu
   split at hu
   .rename_i v hv
    obtain ⟨sv,h1,h2⟩:=opW_tmp hv
    obtain ⟨r,k1,k2⟩:=bindS_use hu hb
    exact bindL_use k1 k2 (ht.put h1 fun ν=>by rw [den_toSV,h2]) hB
   .exact hu.elim
 | .agg t zs :: l,I,T0,B0,K,hu,hb,ht,hB=>by
   simp only [useL] at hu
   split at hu
   .rename_i cs hv
    obtain ⟨sv,h1,h2⟩:=opW_tmp hv
    obtain ⟨r,k1,k2⟩:=bindSs_use hu hb
    exact bindL_use k1 k2 (ht.put h1 fun ν=>by rw [h2]; simp [den]) hB
   .exact hu.elim
 | .ref t b o :: l,I,T0,B0,K,hu,hb,ht,hB=>by
   simp only [useL] at hu
   split at hu
   .rename_i b' o' h1
    cases hq:(Nat.beq b b'&&Nat.beq o o')<;>rw [hq] at hu
    .exact hu.elim
    .simp only [Bool.and_eq_true] at hq
     have e1:=Nat.eq_of_beq_eq_true hq.1
     have e2:=Nat.eq_of_beq_eq_true hq.2
     subst e1; subst e2
     exact bindL_use hu hb (ht.put h1 fun ν=>rfl) hB
   .exact hu.elim
 | .box b zs :: l,I,T0,B0,K,hu,hb,ht,hB=>by
   simp only [useL] at hu
   split at hu
   .rename_i cs h1
    obtain ⟨r,k1,k2⟩:=bindSs_use hu hb
    refine bindL_use k1 k2 ht fun x c hx=>?_
    rw [tget_tset] at hx
    by_cases e:b=x
    .rw [if_pos e] at hx; cases hx; subst e; exact h1
    .rw [if_neg e] at hx; exact hB x c hx
   .exact hu.elim
def Post (Kn:TS->BX->KH->Prop) (Kx:Nat->TS->BX->KH->Prop) (Kr:TS->BX->KH->Prop) (x:Exit) (T:TS) (B:BX) (H:KH):Prop:=match x with
 | .normal=>Kn T B H
 | .exit i=>Kx i T B H
 | .ret=>Kr T B H
 | _=>False
def Runs (W:WE) (ro:Option Nat) (H0:KH) (h0:Hp) (c:Code) (M:Tm) (h:Hp) (P:Exit->TS->BX->KH->Prop):Prop :=
 ∃ x T' B' H' ν' M' h',(∃ n,∀ m,n<=m->ev W.E m c ⟨W.f,ro⟩ M h=some (x,M',h'))/\Rl ν' T' B' H' M' h'/\Fr H0 h0 ν' B' H' h'/\P x T' B' H'
theorem loop_sound {W:WE} {ro:Option Nat} {H0:KH} {h0:Hp} {c:Code} {lv:List LV} {I:Nat->IT lv} {Kx:Nat->TS->BX->KH->Prop} {Kr:TS->BX->KH->Prop}
 (hc:∀ n {ν:Nat->Nat} {T:TS} {B:BX} {H:KH} {M:Tm} {h:Hp},wCode W c T B H (fun T B H=>∃ m,m<n/\useL lv (I m) T B H) Kx Kr->Rl ν T B H M h->Fr H0 h0 ν B H h->Runs W ro H0 h0 c M h (Post (fun T B H=>∃ m,m<n/\useL lv (I m) T B H) Kx Kr))
 (hb:∀ n,bindL lv (I n) .nil .nil fun J T B=>∀ H,J H->wCode W c T B H (fun T B H=>∃ m,m<n/\useL lv (I m) T B H) Kx Kr) :
 ∀ n {ν:Nat->Nat} {T:TS} {B:BX} {H:KH} {M:Tm} {h:Hp},useL lv (I n) T B H->Rl ν T B H M h->Fr H0 h0 ν B H h->Runs W ro H0 h0 (.loop c) M h (Post (fun _ _ _=>False) Kx Kr):=by
 intro n
 induction n using Nat.strongRecOn with
 | ind n ih =>
   intro ν T B H M h hu R F
   obtain ⟨J,T1,B1,k1,k2,k3,k4⟩:=bindL_use hu (hb n) (T0:=.nil) (B0:=.nil) (fun t s q=>by cases q) (fun b cs q=>by cases q)
   obtain ⟨x,T2,B2,H2,ν2,M2,h2,⟨n1,hr1⟩,R2,F2,p2⟩:=hc n (k1 H k2) (R.sub k3 k4) (F.sub k4)
   cases x with
   | normal =>
     obtain ⟨m,hm,hu2⟩:=p2
     obtain ⟨x,T3,B3,H3,ν3,M3,h3,⟨n2,hr2⟩,R3,F3,p3⟩:=ih m hm hu2 R2 F2
     refine ⟨x,T3,B3,H3,ν3,M3,h3,⟨max n1 n2+1,fun k hk=>?_⟩,R3,F3,p3⟩
     obtain ⟨j,rfl⟩:∃ j,k=j+1:=⟨k-1,by omega⟩
     simp only [ev,hr1 j (by omega),hr2 j (by omega)]
   | exit i =>
     refine ⟨.exit i,T2,B2,H2,ν2,M2,h2,⟨n1+1,fun k hk=>?_⟩,R2,F2,p2⟩
     obtain ⟨j,rfl⟩:∃ j,k=j+1:=⟨k-1,by omega⟩
     simp only [ev,hr1 j (by omega)]
   | ret =>
     refine ⟨.ret,T2,B2,H2,ν2,M2,h2,⟨n1+1,fun k hk=>?_⟩,R2,F2,p2⟩
     obtain ⟨j,rfl⟩:∃ j,k=j+1:=⟨k-1,by omega⟩
     simp only [ev,hr1 j (by omega)]
   | goto l=>exact p2.elim
   | panic ch=>exact p2.elim
   | outgrown=>exact p2.elim
theorem block_sound {W:WE} {ro:Option Nat} {H0:KH} {h0:Hp} {c:Code} {id:Nat} {Kn:TS->BX->KH->Prop} {Kx:Nat->TS->BX->KH->Prop} {Kr:TS->BX->KH->Prop} {M:Tm} {h:Hp} {Kl:TS->BX->KH->Prop} (hl:∀ T B H,Kl T B H->Kn T B H)
 (hr:Runs W ro H0 h0 c M h (Post Kl (fun i T B H=>bif Nat.beq i id then Kn T B H else Kx i T B H) Kr)):Runs W ro H0 h0 (.block id c) M h (Post Kn Kx Kr):=by
 obtain ⟨x,T2,B2,H2,ν2,M2,h2,⟨n1,hr1⟩,R2,F2,p2⟩:=hr
 cases x with
 | normal =>
   refine ⟨.normal,T2,B2,H2,ν2,M2,h2,⟨n1+1,fun k hk=>?_⟩,R2,F2,hl _ _ _ p2⟩
   obtain ⟨j,rfl⟩:∃ j,k=j+1:=⟨k-1,by omega⟩
   simp only [ev,hr1 j (by omega)]
 | exit i =>
   have p2':bif Nat.beq i id then Kn T2 B2 H2 else Kx i T2 B2 H2:=p2
   cases hb:Nat.beq i id<;>rw [hb] at p2'
   .refine ⟨.exit i,T2,B2,H2,ν2,M2,h2,⟨n1+1,fun k hk=>?_⟩,R2,F2,p2'⟩
    obtain ⟨j,rfl⟩:∃ j,k=j+1:=⟨k-1,by omega⟩
    simp only [ev,hr1 j (by omega),hb,cond_false]
   .refine ⟨.normal,T2,B2,H2,ν2,M2,h2,⟨n1+1,fun k hk=>?_⟩,R2,F2,p2'⟩
    obtain ⟨j,rfl⟩:∃ j,k=j+1:=⟨k-1,by omega⟩
    simp only [ev,hr1 j (by omega),hb,cond_true]
 | ret =>
   refine ⟨.ret,T2,B2,H2,ν2,M2,h2,⟨n1+1,fun k hk=>?_⟩,R2,F2,p2⟩
   obtain ⟨j,rfl⟩:∃ j,k=j+1:=⟨k-1,by omega⟩
   simp only [ev,hr1 j (by omega)]
 | goto l=>exact p2.elim
 | panic ch=>exact p2.elim
 | outgrown=>exact p2.elim
theorem orX_some {K:Nat->Prop}:∀ (l:List Nat),orX l K->∃ i,K i
 | [],h=>h.elim
 | [i],h=>⟨i,h⟩
 | i :: j :: l,h=>by
   rcases h with h | h
   .exact ⟨i,h⟩
   .exact orX_some (j :: l) h
theorem allSh_of:∀ {s:Sh} {K:Value->Prop},(∀ v,K v)->allSh s K
 | .int k,K,h=>fun _=>h _
 | .bool,K,h=>fun _=>h _
 | .str,K,h=>fun _=>h _
 | .slice,K,h=>fun _ _ _=>h _
 | .ptr,K,h=>fun _ _=>h _
 | .fn,K,h=>fun _=>h _
 | .fix v,K,h=>h v
 | .fnk,K,h=>fun _ _=>h _
 | .fnf,K,h=>fun _ _=>h _
 | .yld,K,h=>fun _=>h _
 | .map,K,h=>fun _=>h _
theorem allShs_of:∀ {zs:List Value} {K:List Value->Prop},(∀ vs,K vs)->allShs zs K
 | [],K,h=>h []
 | z :: l,K,h=>allSh_of fun v=>allShs_of fun vs=>h (v :: vs)
theorem allLV_of:∀ {l:List LV} {K:List Value->Prop},(∀ args,args.length=l.length->K args)->allLV l K
 | [],K,h=>h [] rfl
 | .tmp _ s :: l,K,h=>allSh_of fun v=>allLV_of fun vs hv=>h (v :: vs) (by simp [hv])
 | .agg _ zs :: l,K,h=>allShs_of fun cs=>allLV_of fun vs hv=>h (_ :: vs) (by simp [hv])
 | .ref _ _ _ :: l,K,h=>trivial
 | .box _ _ :: l,K,h=>trivial
theorem putPsS_get:∀ (ts:List Nat) (vs:List Value) (T:TS) (M:Tm),(∀ t s,tget T t=some s->tget M t=some (den (fun _=>0) s))->∀ t s,tget (putPsS T ts vs) t=some s->tget (putPs M ts vs) t=some (den (fun _=>0) s)
 | [],vs,T,M,h,t,s,q=>h t s q
 | u :: ts,[],T,M,h,t,s,q=>h t s q
 | u :: ts,v :: vs,T,M,h,t,s,q=>by
   refine putPsS_get ts vs (tset T u (some (toSV v))) (tset M u (some v)) (fun t s q=>?_) t s q
   rw [tget_tset] at q ⊢
   by_cases e:u=t
   .rw [if_pos e] at q ⊢
    cases q
    rw [den_toSV]
   .rw [if_neg e] at q ⊢
    exact h t s q
theorem snap_nil {M:Tm} {t:Nat}:∀ {n:Nat} (M':Tm),n<=t->tget (putAll M' (snap M n)) t=tget M' t
 | 0,M',h=>rfl
 | n+1,M',h=>by
   simp only [snap]
   split
   .rename_i v hv
    simp only [putAll]
    rw [snap_nil _ (by omega),tget_tset,if_neg (by omega)]
   .exact snap_nil _ (by omega)
theorem snap_put {M:Tm} {t:Nat} {v:Value} (hv:tget M t=some v):∀ {n:Nat} (M':Tm),t<n->tget (putAll M' (snap M n)) t=some v
 | 0,M',h=>by omega
 | n+1,M',h=>by
   simp only [snap]
   by_cases e:t=n
   .subst e
    rw [hv]
    simp only [putAll]
    rw [snap_nil _ (Nat.le_refl _),tget_tset,if_pos rfl]
   .split
    .simp only [putAll]
     exact snap_put hv _ (by omega)
    .exact snap_put hv _ (by omega)
def noR:SV->Prop
 | .r _ _=>False
 | _=>True
theorem pickT_get {T:TS} {N:Nat}:∀ (l:List LV) {t:Nat} {s:SV},tget (pickT T N l) t=some s->tget T t=some s/\t<N/\noR s
 | [],t,s,h=>by cases h
 | .tmp u _ :: l,t,s,h=>by
   simp only [pickT] at h
   have one:∀ x:SV,noR x->tget T u=some x->tget (bif Nat.blt u N then tset (pickT T N l) u (some x) else pickT T N l) t=some s->tget T t=some s/\t<N/\noR s:=by
    intro x hx hu h
    cases hb:Nat.blt u N<;>rw [hb] at h
    .exact pickT_get l h
    .simp only [cond_true] at h
     rw [tget_tset] at h
     by_cases e:u=t
     .rw [if_pos e] at h
      cases h
      subst e
      exact ⟨hu,Nat.le_of_ble_eq_true hb,hx⟩
     .rw [if_neg e] at h
      exact pickT_get l h
   split at h
   .rename_i x hx; exact one (.v x) trivial hx h
   .rename_i b hx; exact one (.q b) trivial hx h
   .exact pickT_get l h
 | .agg _ _ :: l,t,s,h=>pickT_get l h
 | .ref _ _ _ :: l,t,s,h=>pickT_get l h
 | .box _ _ :: l,t,s,h=>pickT_get l h
def Ro (ro:Option Nat) (H0:KH) (h0:Hp):Prop:=∀ l,ro=some l->l<h0.nxt/\H0 l=none/\∃ L,getLp h0 l=some L
theorem lp_get {h:Hp} {l st:Nat} {L:Lp} {pend:Option Code} (hl:tget h.m l=some (lpE L st pend)):getLp h l=some ⟨L.fn,L.N,L.ps,L.asg,L.body,L.ts,st,pend⟩:=by
 unfold getLp
 rw [hl]
 rfl
theorem lp_set {h:Hp} {l st st':Nat} {L:Lp} {pend pend':Option Code} (hl:tget h.m l=some (lpE L st pend)):setLp h l st' pend'=some ⟨tset h.m l (some (lpE L st' pend')),h.nxt⟩:=by
 unfold setLp
 rw [hl]
 rfl
theorem ro_ok {ro:Option Nat} {H0:KH} {h0 h:Hp} {ν:Nat->Nat} {B:BX} {H:KH} (hro:Ro ro H0 h0) (F:Fr H0 h0 ν B H h):roOk h ro=true:=by
 cases ro with
 | none=>rfl
 | some l =>
   obtain ⟨h1,h2,L,h3⟩:=hro l rfl
   have h4:=F.keep l h1 h2
   have:getLp h l=some L:=by
    unfold getLp at h3 ⊢
    rw [h4]
    exact h3
   simp only [roOk,this]
theorem Rl.other {ν:Nat->Nat} {T:TS} {B:BX} {H:KH} {M:Tm} {h:Hp} (R:Rl ν T B H M h) {l:Nat} {e:Option Ent} (hl:l<h.nxt) (hH:H l=none) (hb:∀ b cs,tget B b=some cs->ν b≠l):Rl ν T B H M ⟨tset h.m l e,h.nxt⟩ where
 tmp:=R.tmp
 box b cs q:=by
  obtain ⟨e',h1,h2⟩:=R.box b cs q
  refine ⟨e',?_,h2⟩
  show tget (tset h.m l e) (ν b)=_
  rw [tget_tset,if_neg (fun x=>hb b cs q x.symm)]
  exact h1
 lt:=R.lt
 apart:=R.apart
 inj:=R.inj
 know k e' q:=by
  show tget (tset h.m l e) k=_
  rw [tget_tset,if_neg (fun x=>by subst x; rw [hH] at q; cases q)]
  exact R.know k e' q
 wf k q:=by
  have q:h.nxt<=k:=q
  show tget (tset h.m l e) k=_
  rw [tget_tset,if_neg (by omega)]
  exact R.wf k q
theorem Fr.not {H0:KH} {h0:Hp} {ν:Nat->Nat} {B:BX} {H:KH} {h:Hp} (F:Fr H0 h0 ν B H h) {l:Nat} (hl:l<h0.nxt) (hH:H0 l=none):H l=none/\∀ b cs,tget B b=some cs->ν b≠l:=by
 refine ⟨?_,fun b cs q e=>?_⟩
 .cases hk:H l with
  | none=>rfl
  | some e =>
    rcases F.new l (by rw [hk]; simp) with q | q
    .exact absurd hH q
    .omega
 .have:=F.box b cs q
  omega
theorem Fr.other {H0:KH} {h0:Hp} {ν:Nat->Nat} {B:BX} {H:KH} {h:Hp} (F:Fr H0 h0 ν B H h) {l:Nat} {e:Option Ent}:Fr H0 ⟨tset h0.m l e,h0.nxt⟩ ν B H ⟨tset h.m l e,h.nxt⟩ where
 nxt:=F.nxt
 keep k h1 h2:=by
  show tget (tset h.m l e) k=tget (tset h0.m l e) k
  rw [tget_tset,tget_tset]
  split
  .rfl
  .exact F.keep k h1 h2
 new:=F.new
 box:=F.box
theorem round_sound {W:WE} {L:Lp} (hf:L.fn=W.f) {l:Nat} {T:TS} {args:List Value} {H1:KH} {Q:PQ}
 (ihA:∀ {ro:Option Nat} {H0:KH} {h0:Hp} {Kn:TS->BX->KH->Prop} {Kx:Nat->TS->BX->KH->Prop} {Kr:TS->BX->KH->Prop} {ν:Nat->Nat} {T:TS} {B:BX} {H:KH} {M:Tm} {h:Hp},Ro ro H0 h0->wCode W L.asg T B H Kn Kx Kr->Rl ν T B H M h->Fr H0 h0 ν B H h->Runs W ro H0 h0 L.asg M h (Post Kn Kx Kr))
 (ihB:∀ {ro:Option Nat} {H0:KH} {h0:Hp} {Kn:TS->BX->KH->Prop} {Kx:Nat->TS->BX->KH->Prop} {Kr:TS->BX->KH->Prop} {ν:Nat->Nat} {T:TS} {B:BX} {H:KH} {M:Tm} {h:Hp},Ro ro H0 h0->wCode W L.body T B H Kn Kx Kr->Rl ν T B H M h->Fr H0 h0 ν B H h->Runs W ro H0 h0 L.body M h (Post Kn Kx Kr))
 (hT:∀ t s,tget T t=some s->tget (putPs (putAll .nil L.ts) L.ps args) t=some (den (fun _=>0) s)) (hlen:L.ps.length=args.length) (hH:H1 l=some (lpE L 0 none))
 (hw:wCode W L.asg T .nil (H1.del l) (fun T B H=>wCode W L.body T B H
   (fun _ _ H=>H l=none->Q (.bool true) (H.new l (lpE L 0 none)))
   (fun i _ _ H=>H l=none->Q (.bool false) (H.new l (lpE L 2 (some (.exit i)))))
   (fun _ _ H=>H l=none->Q (.bool false) (H.new l (lpE L 2 (some .ret)))))
   (fun _ _ _ _=>False) (fun _ _ _=>False)):DoesR W.E l args H1 Q:=by
 refine ⟨fun h2 wf know=>?_⟩
 have hl2:=know l _ hH
 have hlt:l<h2.nxt:=by
  rcases Nat.lt_or_ge l h2.nxt with q | q
  .exact q
  .rw [wf l q] at hl2; cases hl2
 have hdel:(H1.del l) l=none:=if_pos rfl
 have hne:∀ k e,(H1.del l) k=some e->H1 k=some e:=fun k e q=>by
  simp only [KH.del] at q
  split at q
  .cases q
  .exact q
 have R:Rl (fun _=>0) T .nil (H1.del l) (putPs (putAll .nil L.ts) L.ps args) h2:=⟨hT,fun b cs q=>(by cases q),fun b cs q=>(by cases q),fun b cs q=>(by cases q),fun b b' cs cs' q=>(by cases q),fun k e q=>know k e (hne k e q),wf⟩
 have F:Fr (H1.del l) h2 (fun _=>0) .nil (H1.del l) h2:=⟨Nat.le_refl _,fun _ _ _=>rfl,fun k q=>.inl q,fun b cs q=>(by cases q)⟩
 have ro1:Ro (some l) (H1.del l) h2:=fun l' e=>by cases e; exact ⟨hlt,hdel,_,lp_get hl2⟩
 obtain ⟨x,T3,B3,H3,ν3,M3,h3,⟨n1,hr1⟩,R3,F3,p3⟩:=ihA ro1 hw R F
 cases x with
 | exit i=>exact p3.elim
 | ret=>exact p3.elim
 | goto i=>exact p3.elim
 | panic i=>exact p3.elim
 | outgrown=>exact p3.elim
 | normal =>
   have hl3:tget h3.m l=some (lpE L 0 none):=by rw [F3.keep l hlt hdel]; exact hl2
   obtain ⟨hH3,hb3⟩:=F3.not hlt hdel
   have hlt3:l<h3.nxt:=Nat.lt_of_lt_of_le hlt F3.nxt
   have R4:=R3.other (e:=some (lpE L 1 none)) hlt3 hH3 hb3
   have F4:=F3.other (l:=l) (e:=some (lpE L 1 none))
   have ro2:Ro (some l) (H1.del l) ⟨tset h2.m l (some (lpE L 1 none)),h2.nxt⟩:=fun l' e=>by
    cases e
    exact ⟨hlt,hdel,_,lp_get (st:=1) (pend:=none) (by show tget (tset h2.m l _) l=_; rw [tget_tset,if_pos rfl])⟩
   obtain ⟨x,T5,B5,H5,ν5,M5,h5,⟨n2,hr2⟩,R5,F5,p5⟩:=ihB ro2 p3 R4 F4
   have hl5:tget h5.m l=some (lpE L 1 none):=by
    rw [F5.keep l hlt hdel]
    show tget (tset h2.m l _) l=_
    rw [tget_tset,if_pos rfl]
   have hlt5:l<h5.nxt:=Nat.lt_of_lt_of_le hlt F5.nxt
   have hs3:setLp h3 l 1 none=some ⟨tset h3.m l (some (lpE L 1 none)),h3.nxt⟩:=lp_set hl3
   have nb:Nat.blt (unkU+l) unkU=false:=by
    cases hq:Nat.blt (unkU+l) unkU with
    | false=>rfl
    | true=>have:=Nat.le_of_ble_eq_true hq; omega
   have hsub:unkU+l-unkU=l:=by omega
   have lb:Nat.beq L.ps.length args.length=true:=by rw [hlen]; exact Nat.beq_refl _
   -- the end of a round
   have fin:∀ (b:Bool) (st:Nat) (pend:Option Code),Q (.bool b) (H5.new l (lpE L st pend))->(∀ m,max n1 n2<=m->callA W.E (ev W.E m) (unkU+l) args h2=some (.bool b,⟨tset h5.m l (some (lpE L st pend)),h5.nxt⟩))->
    ∃ v h' H',(∃ n,∀ m,n<=m->callA W.E (ev W.E m) (unkU+l) args h2=some (v,h'))/\Q v H'/\
    (∀ k,h'.nxt<=k->tget h'.m k=none)/\(∀ k e,H' k=some e->tget h'.m k=some e)/\
    h2.nxt<=h'.nxt/\(∀ k,k<h2.nxt->H1 k=none->tget h'.m k=tget h2.m k)/\(∀ k,H' k≠none->H1 k≠none\/h2.nxt<=k):=by
    intro b st pend hQ hrun
    refine ⟨_,_,_,⟨max n1 n2,hrun⟩,hQ,fun k q=>?_,fun k e q=>?_,F5.nxt,fun k h1 q=>?_,fun k q=>?_⟩
    .have q:h5.nxt<=k:=q
     show tget (tset h5.m l _) k=none
     rw [tget_tset,if_neg (by omega)]
     exact R5.wf k q
    .show tget (tset h5.m l _) k=_
     rw [tget_tset]
     simp only [KH.new] at q
     by_cases ek:k=l
     .rw [if_pos ek] at q; rw [if_pos ek.symm]; exact q
     .rw [if_neg ek] at q; rw [if_neg (fun x=>ek x.symm)]; exact R5.know k e q
    .have ek:¬ l=k:=fun x=>by subst x; rw [hH] at q; cases q
     show tget (tset h5.m l _) k=_
     rw [tget_tset,if_neg ek,F5.keep k h1 (by simp only [KH.del]; rw [if_neg (fun x=>ek x.symm)]; exact q)]
     show tget (tset h2.m l _) k=_
     rw [tget_tset,if_neg ek]
    .simp only [KH.new] at q
     by_cases ek:k=l
     .left; rw [ek,hH]; simp
     .rw [if_neg ek] at q
      rcases F5.new k q with r | r
      .left
       simp only [KH.del] at r
       rw [if_neg ek] at r
       exact r
      .exact .inr r
   cases x with
   | normal =>
     refine fin true 0 none (p5 (F5.not hlt hdel).1) fun m hm=>?_
     simp only [callA,nb,cond_false,hsub,yieldA,lp_get hl2,ob,Nat.beq_refl,lb,Bool.and_self,cond_true,hf,hr1 m (by omega),lp_get hl3,hs3,hr2 m (by omega),lp_set hl5]
   | ret =>
     refine fin false 2 (some .ret) (p5 (F5.not hlt hdel).1) fun m hm=>?_
     simp only [callA,nb,cond_false,hsub,yieldA,lp_get hl2,ob,Nat.beq_refl,lb,Bool.and_self,cond_true,hf,hr1 m (by omega),lp_get hl3,hs3,hr2 m (by omega),lp_set hl5]
   | exit i =>
     refine fin false 2 (some (.exit i)) (p5 (F5.not hlt hdel).1) fun m hm=>?_
     simp only [callA,nb,cond_false,hsub,yieldA,lp_get hl2,ob,Nat.beq_refl,lb,Bool.and_self,cond_true,hf,hr1 m (by omega),lp_get hl3,hs3,hr2 m (by omega),lp_set hl5]
   | goto i=>exact p5.elim
   | panic i=>exact p5.elim
   | outgrown=>exact p5.elim
theorem range_sound {W:WE} (hE:EnvT W.E) {ro:Option Nat} {H0:KH} {h0:Hp} (hro:Ro ro H0 h0) {g:Operand} {ps:Array Tmp} {asg body:Code} {Kn:TS->BX->KH->Prop} {Kx:Nat->TS->BX->KH->Prop} {Kr:TS->BX->KH->Prop} {ν:Nat->Nat} {T:TS} {B:BX} {H:KH} {M:Tm} {h:Hp}
 (ihA:∀ {ro:Option Nat} {H0:KH} {h0:Hp} {Kn:TS->BX->KH->Prop} {Kx:Nat->TS->BX->KH->Prop} {Kr:TS->BX->KH->Prop} {ν:Nat->Nat} {T:TS} {B:BX} {H:KH} {M:Tm} {h:Hp},Ro ro H0 h0->wCode W asg T B H Kn Kx Kr->Rl ν T B H M h->Fr H0 h0 ν B H h->Runs W ro H0 h0 asg M h (Post Kn Kx Kr))
 (ihB:∀ {ro:Option Nat} {H0:KH} {h0:Hp} {Kn:TS->BX->KH->Prop} {Kx:Nat->TS->BX->KH->Prop} {Kr:TS->BX->KH->Prop} {ν:Nat->Nat} {T:TS} {B:BX} {H:KH} {M:Tm} {h:Hp},Ro ro H0 h0->wCode W body T B H Kn Kx Kr->Rl ν T B H M h->Fr H0 h0 ν B H h->Runs W ro H0 h0 body M h (Post Kn Kx Kr))
 (hw:wCode W (.rangeFunc g ps asg body) T B H Kn Kx Kr) (R:Rl ν T B H M h) (F:Fr H0 h0 ν B H h):Runs W ro H0 h0 (.rangeFunc g ps asg body) M h (Post Kn Kx Kr):=by
 simp only [wCode] at hw
 split at hw
 .rename_i it first cap fn hg hfn
  cases hq:(Nat.beq (lvAt W (1000000+keyOf ps.toList)).length ps.toList.length&&ps.toList.all (fun t=>Nat.blt t fn.ntmps))<;>rw [hq] at hw
  .exact hw.elim
  .simp only [cond_true] at hw
   simp only [Bool.and_eq_true] at hq
   obtain ⟨hlen,hps⟩:=hq
   have hlen:=Nat.eq_of_beq_eq_true hlen
   obtain ⟨hin,hw⟩:=hw
   have hHl:H h.nxt=none:=R.fresh
   have hD:=hw h.nxt ⟨W.f,fn.ntmps,ps.toList,asg,body,snap M fn.ntmps,0,none⟩ hHl (by
    refine allLV_of (fun args hargs H1 Q hH1 hwp=>?_)
    refine round_sound (L:=⟨W.f,fn.ntmps,ps.toList,asg,body,snap M fn.ntmps,0,none⟩) rfl ihA ihB (fun t s q=>?_) (by rw [hargs]; exact hlen.symm) hH1 hwp
    refine putPsS_get ps.toList args _ _ (fun t s q=>?_) t s q
    obtain ⟨q1,q2,q3⟩:=pickT_get _ q
    have q4:=snap_put (R.tmp t s q1) .nil q2
    refine Eq.trans q4 ?_
    cases s with
    | v x=>rfl
    | q b=>rfl
    | r a b=>exact q3.elim)
   generalize hL:(⟨W.f,fn.ntmps,ps.toList,asg,body,snap M fn.ntmps,0,none⟩:Lp)=L at *
   have hLe:(⟨.nil,0,0,some (.loop L)⟩:Ent)=lpE L 0 none:=by rw [<- hL]; rfl
   have hf0:tget h.m h.nxt=none:=R.wf _ (Nat.le_refl _)
   have hnb:∀ b cs,tget B b=some cs->ν b≠h.nxt:=fun b cs q e=>by have:=R.lt b cs q; omega
   have R1:=R.alloc (e:=lpE L 0 none) hf0 hnb
   have F1:=F.alloc (nm:=h.nxt) (e:=lpE L 0 none) F.nxt
   obtain ⟨v,h7,H7,⟨n,hrun⟩,hQ,hwf,hknow,hnxt,hkeep,hnew⟩:=hD.run (halloc h h.nxt (lpE L 0 none)) R1.wf R1.know
   have R7:=R1.called hwf hknow hnxt hkeep hnew
   have F7:=F1.called hnxt hkeep hnew
   have hlt7:h.nxt<h7.nxt:=by
    have:(halloc h h.nxt (lpE L 0 none)).nxt=max h.nxt (h.nxt+1):=rfl
    omega
   have hRd:Rl ν T B (H7.del h.nxt) M (dropE h7 h.nxt):=(R7.del h.nxt).other (e:=none) hlt7 (if_pos rfl) hnb
   have hFd:Fr H0 h0 ν B (H7.del h.nxt) (dropE h7 h.nxt):=by
    refine ⟨F7.nxt,fun k h1 h2=>?_,fun k q=>F7.new k ?_,F7.box⟩
    .have hk:¬ h.nxt=k:=by have:=F.nxt; omega
     show tget (tset h7.m h.nxt none) k=_
     rw [tget_tset,if_neg hk]
     exact F7.keep k h1 h2
    .simp only [KH.del] at q
     split at q
     .exact absurd rfl q
     .exact q
   have hblt:(Nat.blt it unkU&&(tget W.E.ff it).isSome)=true:=by
    have hb:Nat.blt it unkU=true:=Nat.ble_eq_true_of_le hD.lt
    rw [hb,hin.h]; rfl
   have step:∀ (st:Nat) (pend:Option Code) (x:Exit),H7 h.nxt=some (lpE L st pend)->Nat.beq st 1=false->(∀ h',endA h' h.nxt M=endA h' h.nxt M)->(pend=none/\x = .normal\/pend=some .ret/\x = .ret\/∃ i,pend=some (.exit i)/\x = .exit i)->Post Kn Kx Kr x T B (H7.del h.nxt)->Runs W ro H0 h0 (.rangeFunc g ps asg body) M h (Post Kn Kx Kr):=by
    intro st pend x hl hst _ hx hp
    refine ⟨x,T,B,_,ν,M,_,⟨n+1,fun k hk=>?_⟩,hRd,hFd,hp⟩
    obtain ⟨j,rfl⟩:∃ j,k=j+1:=⟨k-1,by omega⟩
    have hr:=hrun j (by omega)
    have hl7:=lp_get (hknow _ _ hl)
    have hnl:newLp h ⟨W.f,fn.ntmps,ps.toList,asg,body,snap M fn.ntmps,0,none⟩=halloc h h.nxt (lpE L 0 none):=by rw [hL,<- hLe]; rfl
    simp only [ev,ro_ok hro F,cond_true,R.opW hg,hfn,hblt,hnl,hr,endA,hl7,ob,hst,cond_false]
    rcases hx with ⟨rfl,rfl⟩ | ⟨rfl,rfl⟩ | ⟨i,rfl,rfl⟩<;>rfl
   rcases hQ with ⟨h1,h2⟩ | ⟨h1,h2⟩ | hQ
   .exact step 0 none .normal h1 rfl (fun _=>rfl) (.inl ⟨rfl,rfl⟩) h2
   .exact step 2 (some .ret) .ret h1 rfl (fun _=>rfl) (.inr (.inl ⟨rfl,rfl⟩)) h2
   .obtain ⟨i,h1,h2⟩:=orX_some _ hQ
    exact step 2 (some (.exit i)) (.exit i) h1 rfl (fun _=>rfl) (.inr (.inr ⟨i,rfl,rfl⟩)) h2
 .exact hw.elim
theorem wCode_sound {W:WE} (hE:EnvT W.E):∀ (c:Code) {ro:Option Nat} {H0:KH} {h0:Hp} {Kn:TS->BX->KH->Prop} {Kx:Nat->TS->BX->KH->Prop} {Kr:TS->BX->KH->Prop} {ν:Nat->Nat} {T:TS} {B:BX} {H:KH} {M:Tm} {h:Hp},
 Ro ro H0 h0->wCode W c T B H Kn Kx Kr->Rl ν T B H M h->Fr H0 h0 ν B H h->Runs W ro H0 h0 c M h (Post Kn Kx Kr)
 | .skip,ro,H0,h0,Kn,Kx,Kr,ν,T,B,H,M,h,hro,hw,R,F=>by
   refine ⟨.normal,T,B,H,ν,M,h,⟨1,fun k hk=>?_⟩,R,F,hw⟩
   obtain ⟨j,rfl⟩:∃ j,k=j+1:=⟨k-1,by omega⟩
   rfl
 | .exit id,ro,H0,h0,Kn,Kx,Kr,ν,T,B,H,M,h,hro,hw,R,F=>by
   refine ⟨.exit id,T,B,H,ν,M,h,⟨1,fun k hk=>?_⟩,R,F,hw⟩
   obtain ⟨j,rfl⟩:∃ j,k=j+1:=⟨k-1,by omega⟩
   rfl
 | .ret,ro,H0,h0,Kn,Kx,Kr,ν,T,B,H,M,h,hro,hw,R,F=>by
   refine ⟨.ret,T,B,H,ν,M,h,⟨1,fun k hk=>?_⟩,R,F,hw⟩
   obtain ⟨j,rfl⟩:∃ j,k=j+1:=⟨k-1,by omega⟩
   rfl
 | .seq a b,ro,H0,h0,Kn,Kx,Kr,ν,T,B,H,M,h,hro,hw,R,F=>by
   have key:∀ Kn':TS->BX->KH->Prop,(∀ T B H,Kn' T B H->wCode W b T B H Kn Kx Kr)->wCode W a T B H Kn' Kx Kr->Runs W ro H0 h0 (.seq a b) M h (Post Kn Kx Kr):=by
    intro Kn' hk hw
    obtain ⟨x,T2,B2,H2,ν2,M2,h2,⟨n1,hr1⟩,R2,F2,p2⟩:=wCode_sound hE a hro hw R F
    cases x with
    | normal =>
      obtain ⟨x,T3,B3,H3,ν3,M3,h3,⟨n2,hr2⟩,R3,F3,p3⟩:=wCode_sound hE b hro (hk _ _ _ p2) R2 F2
      refine ⟨x,T3,B3,H3,ν3,M3,h3,⟨max n1 n2+1,fun k hk=>?_⟩,R3,F3,p3⟩
      obtain ⟨j,rfl⟩:∃ j,k=j+1:=⟨k-1,by omega⟩
      simp only [ev,hr1 j (by omega),hr2 j (by omega)]
    | exit i =>
      refine ⟨.exit i,T2,B2,H2,ν2,M2,h2,⟨n1+1,fun k hk=>?_⟩,R2,F2,p2⟩
      obtain ⟨j,rfl⟩:∃ j,k=j+1:=⟨k-1,by omega⟩
      simp only [ev,hr1 j (by omega)]
    | ret =>
      refine ⟨.ret,T2,B2,H2,ν2,M2,h2,⟨n1+1,fun k hk=>?_⟩,R2,F2,p2⟩
      obtain ⟨j,rfl⟩:∃ j,k=j+1:=⟨k-1,by omega⟩
      simp only [ev,hr1 j (by omega)]
    | goto l=>exact p2.elim
    | panic ch=>exact p2.elim
    | outgrown=>exact p2.elim
   simp only [wCode] at hw
   cases hf:forks a<;>rw [hf] at hw
   .exact key _ (fun _ _ _ q=>q) hw
   .exact key _ (fun _ _ _ q=>q) hw
 | .cond c a b,ro,H0,h0,Kn,Kx,Kr,ν,T,B,H,M,h,hro,hw,R,F=>by
   simp only [wCode] at hw
   split at hw
   .rename_i t
    have yes:tget M t=some (.bool true)->Runs W ro H0 h0 a M h (Post Kn Kx Kr)->Runs W ro H0 h0 (.cond (.tmp t) a b) M h (Post Kn Kx Kr):=by
     rintro hm ⟨x,T2,B2,H2,ν2,M2,h2,⟨n1,hr1⟩,R2,F2,p2⟩
     refine ⟨x,T2,B2,H2,ν2,M2,h2,⟨n1+1,fun k hk=>?_⟩,R2,F2,p2⟩
     obtain ⟨j,rfl⟩:∃ j,k=j+1:=⟨k-1,by omega⟩
     simp only [ev,opv,hm,hr1 j (by omega)]
    have no:tget M t=some (.bool false)->Runs W ro H0 h0 b M h (Post Kn Kx Kr)->Runs W ro H0 h0 (.cond (.tmp t) a b) M h (Post Kn Kx Kr):=by
     rintro hm ⟨x,T2,B2,H2,ν2,M2,h2,⟨n1,hr1⟩,R2,F2,p2⟩
     refine ⟨x,T2,B2,H2,ν2,M2,h2,⟨n1+1,fun k hk=>?_⟩,R2,F2,p2⟩
     obtain ⟨j,rfl⟩:∃ j,k=j+1:=⟨k-1,by omega⟩
     simp only [ev,opv,hm,hr1 j (by omega)]
    unfold askB at hw
    split at hw
    .rename_i hs
     exact yes (R.tmp t _ hs) (wCode_sound hE a hro hw (R.told hs rfl) F)
    .rename_i hs
     exact no (R.tmp t _ hs) (wCode_sound hE b hro hw (R.told hs rfl) F)
    .rename_i bb hs
     cases bb with
     | true=>exact yes (R.tmp t _ hs) (wCode_sound hE a hro (hw.1 rfl) (R.told hs rfl) F)
     | false=>exact no (R.tmp t _ hs) (wCode_sound hE b hro (hw.2 rfl) (R.told hs rfl) F)
    .exact hw.elim
   .exact hw.elim
 | .block id (.loop c),ro,H0,h0,Kn,Kx,Kr,ν,T,B,H,M,h,hro,hw,R,F=>by
   simp only [wCode] at hw
   split at hw
   .exact hw.elim
   .rename_i lv hlv
    obtain ⟨I,⟨n,hu⟩,hb⟩:=hw
    refine block_sound (Kl:=fun _ _ _=>False) (fun _ _ _ q=>q.elim) ?_
    exact loop_sound (fun n {ν T B H M h} hw R F=>wCode_sound hE c hro hw R F) hb n hu R F
 | .block id .skip,ro,H0,h0,Kn,Kx,Kr,ν,T,B,H,M,h,hro,hw,R,F=>block_sound (fun _ _ _ q=>q) (wCode_sound hE .skip hro hw R F)
 | .block id (.region a b c),ro,H0,h0,Kn,Kx,Kr,ν,T,B,H,M,h,hro,hw,R,F=>block_sound (fun _ _ _ q=>q) (wCode_sound hE (.region a b c) hro hw R F)
 | .block id (.seq a b),ro,H0,h0,Kn,Kx,Kr,ν,T,B,H,M,h,hro,hw,R,F=>block_sound (fun _ _ _ q=>q) (wCode_sound hE (.seq a b) hro hw R F)
 | .block id (.cond a b c),ro,H0,h0,Kn,Kx,Kr,ν,T,B,H,M,h,hro,hw,R,F=>block_sound (fun _ _ _ q=>q) (wCode_sound hE (.cond a b c) hro hw R F)
 | .block id (.block a b),ro,H0,h0,Kn,Kx,Kr,ν,T,B,H,M,h,hro,hw,R,F=>block_sound (fun _ _ _ q=>q) (wCode_sound hE (.block a b) hro hw R F)
 | .block id (.rangeFunc a b c d),ro,H0,h0,Kn,Kx,Kr,ν,T,B,H,M,h,hro,hw,R,F=>block_sound (fun _ _ _ q=>q) (wCode_sound hE (.rangeFunc a b c d) hro hw R F)
 | .block id (.exit a),ro,H0,h0,Kn,Kx,Kr,ν,T,B,H,M,h,hro,hw,R,F=>block_sound (fun _ _ _ q=>q) (wCode_sound hE (.exit a) hro hw R F)
 | .block id (.scope a),ro,H0,h0,Kn,Kx,Kr,ν,T,B,H,M,h,hro,hw,R,F=>hw.elim
 | .block id (.label a),ro,H0,h0,Kn,Kx,Kr,ν,T,B,H,M,h,hro,hw,R,F=>hw.elim
 | .block id (.goto a),ro,H0,h0,Kn,Kx,Kr,ν,T,B,H,M,h,hro,hw,R,F=>hw.elim
 | .block id .ret,ro,H0,h0,Kn,Kx,Kr,ν,T,B,H,M,h,hro,hw,R,F=>block_sound (fun _ _ _ q=>q) (wCode_sound hE .ret hro hw R F)
 | .block id (.refuse a),ro,H0,h0,Kn,Kx,Kr,ν,T,B,H,M,h,hro,hw,R,F=>hw.elim
 | .region id ops draw,ro,H0,h0,Kn,Kx,Kr,ν,T,B,H,M,h,hro,hw,R,F=>by
   simp only [wCode] at hw
   cases draw with
   | false =>
     obtain ⟨T2,B2,H2,ν2,M2,h2,⟨n1,hr1⟩,R2,F2,p2⟩:=wOps_sound hE ops.toList hw R F
     refine ⟨.normal,T2,B2,H2,ν2,M2,h2,⟨n1+1,fun k hk=>?_⟩,R2,F2,p2⟩
     obtain ⟨j,rfl⟩:∃ j,k=j+1:=⟨k-1,by omega⟩
     simp only [ev,cond_false,hr1 j (by omega)]
   | true =>
     simp only [cond_true] at hw
     split at hw
     .exact hw.elim
     .rename_i pf hpf
      split at hw
      .exact hw.elim
      .rename_i st hst
       have R1:Rl ν T B H M ⟨h.m,h.nxt+ops.size⟩:=⟨R.tmp,R.box,fun b cs q=>Nat.lt_of_lt_of_le (R.lt b cs q) (Nat.le_add_right _ _),R.apart,R.inj,R.know,fun k q=>R.wf k (Nat.le_trans (Nat.le_add_right _ _) q)⟩
       have F1:Fr H0 h0 ν B H ⟨h.m,h.nxt+ops.size⟩:=⟨Nat.le_trans F.nxt (Nat.le_add_right _ _),F.keep,F.new,F.box⟩
       have I1:In ops h.nxt [] [] ν B H ⟨h.m,h.nxt+ops.size⟩:=by
        refine ⟨Nat.le_refl _,fun i _ _=>R.wf _ (Nat.le_add_right _ _),fun i _ q=>?_,fun b cs q i _ e=>?_,fun i nm q=>(by cases q)⟩
        .exfalso
         cases hq:H (h.nxt+i) with
         | none=>exact q hq
         | some e=>have:=R.know _ _ hq; rw [R.wf _ (Nat.le_add_right _ _)] at this; cases this
        .have:=R.lt b cs q; omega
       obtain ⟨T2,B2,H2,ν2,M2,h2,⟨n1,hr1⟩,R2,F2,p2⟩:=wStages_sound hE F.nxt st hw I1 R1 F1
       refine ⟨.normal,T2,B2,H2,ν2,M2,h2,⟨n1+1,fun k hk=>?_⟩,R2,F2,p2⟩
       obtain ⟨j,rfl⟩:∃ j,k=j+1:=⟨k-1,by omega⟩
       simp only [ev,cond_true,hpf,hst,hr1 j (by omega)]
 | .loop c,ro,H0,h0,Kn,Kx,Kr,ν,T,B,H,M,h,hro,hw,R,F=>hw.elim
 | .rangeFunc a b c d,ro,H0,h0,Kn,Kx,Kr,ν,T,B,H,M,h,hro,hw,R,F=>range_sound hE hro (fun h1 h2 h3 h4=>wCode_sound hE c h1 h2 h3 h4) (fun h1 h2 h3 h4=>wCode_sound hE d h1 h2 h3 h4) hw R F
 | .scope a,ro,H0,h0,Kn,Kx,Kr,ν,T,B,H,M,h,hro,hw,R,F=>hw.elim
 | .label a,ro,H0,h0,Kn,Kx,Kr,ν,T,B,H,M,h,hro,hw,R,F=>hw.elim
 | .goto a,ro,H0,h0,Kn,Kx,Kr,ν,T,B,H,M,h,hro,hw,R,F=>hw.elim
 | .refuse a,ro,H0,h0,Kn,Kx,Kr,ν,T,B,H,M,h,hro,hw,R,F=>hw.elim
theorem argsS_get (ν:Nat->Nat):∀ (l:List Value) (T:TS) (M:Tm) (i:Nat),(∀ t s,tget T t=some s->tget M t=some (den ν s))->∀ t s,tget (argsS T i l) t=some s->tget (args0 M i l) t=some (den ν s)
 | [],T,M,i,h,t,s,q=>h t s q
 | v :: l,T,M,i,h,t,s,q=>by
   refine argsS_get ν l (tset T i (some (toSV v))) (tset M i (some v)) (i+1) (fun t s q=>?_) t s q
   rw [tget_tset] at q ⊢
   by_cases e:i=t
   .rw [if_pos e] at q ⊢
    cases q
    rw [den_toSV]
   .rw [if_neg e] at q ⊢
    exact h t s q
theorem wRess_sound {W:WE} {ν:Nat->Nat} {T:TS} {B:BX} {H:KH} {M:Tm} {h:Hp} (R:Rl ν T B H M h) {K:List Value->Prop}:∀ {rs:List ResultVar} {acc:List Value},wRess W T B H rs acc K->∃ vs,resA (opv M) h W.E rs=some vs/\K (acc.reverse++vs)
 | [],acc,hw=>⟨[],rfl,by simpa [wRess] using hw⟩
 | .tmp t :: l,acc,hw=>by
   simp only [wRess] at hw
   split at hw
   .rename_i v hv
    obtain ⟨vs,h1,h2⟩:=wRess_sound R hw
    exact ⟨v :: vs,by simp only [resA,R.opW hv,h1],by simpa using h2⟩
   .exact hw.elim
 | .cell t ty :: l,acc,hw=>by
   simp only [wRess] at hw
   split at hw
   .rename_i b off ti hs hti
    split at hw
    .rename_i cs hcs
     cases hle:Nat.ble (off+ti.size) cs.length<;>rw [hle] at hw<;>simp only [cond_true,cond_false] at hw
     have hop:opv M (.tmp t)=some (.pointer (some ⟨ν b,off,none⟩)):=R.tmp t _ hs
     cases ha:ti.agg<;>rw [ha] at hw<;>simp only [cond_true,cond_false] at hw
     .split at hw
      .rename_i v hv
       obtain ⟨vs,h1,h2⟩:=wRess_sound R hw
       have hlt:off+1<=cs.length:=by
        rcases Nat.lt_or_ge off cs.length with k | k
        .exact k
        .rw [List.getElem?_eq_none k] at hv; cases hv
       have hrd:=R.rdBox hcs hlt
       rw [sub_eq_one hv] at hrd
       exact ⟨v :: vs,by simp only [resA,hop,hti,h1,ha,cond_false,hrd],by simpa using h2⟩
      .exact hw.elim
     .obtain ⟨vs,h1,h2⟩:=wRess_sound R hw
      have hrd:=R.rdBox hcs (Nat.le_of_ble_eq_true hle)
      exact ⟨_ :: vs,by simp only [resA,hop,hti,h1,ha,cond_true,hrd]; rfl,by simpa using h2⟩
    .exact hw.elim
   .rename_i ad ti hs hti
    have hop:opv M (.tmp t)=some (.pointer (some ad)):=R.tmp t _ hs
    cases ha:ti.agg<;>rw [ha] at hw<;>simp only [cond_true,cond_false] at hw
    .split at hw
     .obtain ⟨v,hl,hw⟩:=exSh_some hw
      obtain ⟨vs,h1,h2⟩:=wRess_sound R hw
      have hrd:=R.ldv hl
      exact ⟨v :: vs,by simp only [resA,hop,hti,h1,ha,cond_false,List.length_singleton] at hrd ⊢; rw [hrd],by simpa using h2⟩
     .exact hw.elim
    .cases hz:Nat.beq ti.zero.length ti.size<;>rw [hz] at hw
     .exact hw.elim
     .obtain ⟨cs,hlen,hl,hw⟩:=exShs_some hw
      obtain ⟨vs,h1,h2⟩:=wRess_sound R hw
      have hrd:=R.ldv hl
      rw [hlen,Nat.eq_of_beq_eq_true hz] at hrd
      exact ⟨_ :: vs,by simp only [resA,hop,hti,h1,ha,cond_true,hrd]; rfl,by simpa using h2⟩
   .exact hw.elim
theorem wFun_sound {W:WE} (hE:EnvT W.E) (hlt:W.f<unkU) {fn:Func} (hfn:tget W.E.ff W.f=some fn) {args:List Value} {H:KH} {Q:PQ} (hw:wFun W fn args H Q):Does W.E W.f args H Q:=by
 refine ⟨hlt,fun h wf know=>?_⟩
 have hb:Nat.blt W.f unkU=true:=Nat.ble_eq_true_of_le hlt
 unfold wFun at hw
 split at hw
 .exact hw.elim
 .rename_i c hc
  have R:Rl (fun _=>0) (argsS .nil 0 args) .nil H (args0 .nil 0 args) h:=⟨argsS_get _ args .nil .nil 0 (fun t s q=>by cases q),fun b cs q=>(by cases q),fun b cs q=>(by cases q),fun b cs q=>(by cases q),fun b b' cs cs' q=>(by cases q),know,wf⟩
  have F:Fr H h (fun _=>0) .nil H h:=⟨Nat.le_refl _,fun _ _ _=>rfl,fun k q=>.inl q,fun b cs q=>(by cases q)⟩
  obtain ⟨x,T2,B2,H2,ν2,M2,h2,⟨n1,hr1⟩,R2,F2,p2⟩:=wCode_sound hE c (ro:=none) (fun l e=>by cases e) hw R F
  have fin:(x = .normal\/x = .ret)->wRess W T2 B2 H2 fn.results.toList [] (fun vs=>match oneOf vs with | some v=>Q v H2 | none=>False)->∃ v h' H',(∃ n,∀ m,n<=m->callA W.E (ev W.E m) W.f args h=some (v,h'))/\Q v H'/\
   (∀ k,h'.nxt<=k->tget h'.m k=none)/\(∀ k e,H' k=some e->tget h'.m k=some e)/\
   h.nxt<=h'.nxt/\(∀ k,k<h.nxt->H k=none->tget h'.m k=tget h.m k)/\(∀ k,H' k≠none->H k≠none\/h.nxt<=k):=by
   intro hx hres
   obtain ⟨vs,h1,h3⟩:=wRess_sound R2 hres
   simp only [List.reverse_nil,List.nil_append] at h3
   split at h3
   .rename_i v hv
    refine ⟨v,h2,H2,⟨n1,fun m hm=>?_⟩,h3,R2.wf,R2.know,F2.nxt,F2.keep,F2.new⟩
    simp only [callA,hb,cond_true,hfn,hc,hr1 m hm]
    rcases hx with rfl | rfl<;>simp only [h1,ob,hv]
   .exact h3.elim
  cases x with
  | normal=>exact fin (.inl rfl) p2
  | ret=>exact fin (.inr rfl) p2
  | exit i=>exact p2.elim
  | goto l=>exact p2.elim
  | panic ch=>exact p2.elim
  | outgrown=>exact p2.elim
theorem ff_of {E:Env} (hE:EnvOk E) {g:Nat} {fn:Func} (h1:(tget E.ff g).isSome=true) (h2:E.P.funcs[g]? = some fn):tget E.ff g=some fn:=by
 obtain ⟨f,hf⟩:=Option.isSome_iff_exists.1 h1
 obtain ⟨h3,_⟩:=hE.ff g f hf
 rw [h2] at h3
 rw [hf,<- h3]
theorem does_true {E:Env} {g:Nat} {H:KH} {Q:PQ} (h0:Nat.blt g unkU=true) (h1:(tget E.ff g).isNone=true) (h2:tget E.xx g=some 2) (hq:Q (.bool true) H):Does E g [] H Q:=by
 have h1:tget E.ff g=none:=by
  cases h:tget E.ff g with
  | none=>rfl
  | some f=>rw [h] at h1; cases h1
 refine ⟨blt_lt h0,fun h wf know=>⟨_,h,H,⟨0,fun m _=>?_⟩,hq,wf,know,Nat.le_refl _,fun _ _ _=>rfl,fun k q=>.inl q⟩⟩
 simp only [callA,h0,cond_true,h1,xext,h2]
def Le (H H':KH):Prop:=∀ k e,H k=some e->H' k=some e
theorem Le.refl (H:KH):Le H H:=fun _ _ q=>q
theorem Le.trans {H H' H'':KH} (a:Le H H') (b:Le H' H''):Le H H'':=fun k e q=>b k e (a k e q)
theorem Le.new {H:KH} {n:Nat} {e:Ent} (h:H n=none):Le H (H.new n e):=fun k e' q=>by
 simp only [KH.new]
 rw [if_neg (fun e1=>by subst e1; rw [h] at q; cases q)]
 exact q
theorem Le.ld {H H':KH} (h:Le H H') {a:Addr} {vs:List Value} (q:ld H a vs):ld H' a vs:=by
 obtain ⟨h1,e,h2,h3⟩:=q
 exact ⟨h1,e,h _ _ h2,h3⟩
theorem Le.none {H H':KH} (h:Le H H') {n:Nat} (q:H' n=none):H n=none:=by
 cases hk:H n with
 | none=>rfl
 | some e=>rw [h _ _ hk] at q; cases q
theorem del_le (H:KH) (n:Nat):Le (H.del n) H:=fun k e q=>by
 simp only [KH.del] at q
 split at q
 .cases q
 .exact q
theorem Le.load {H H':KH} (h:Le H H') {a:Addr} {n:Nat} {cs:List Value} (q:H.load a n=some cs):H'.load a n=some cs:=by
 unfold KH.load at q ⊢
 split at q
 .rename_i e h1 h2
  simp only [h1,h _ _ h2]
  exact q
 .cases q
theorem Le.kold {H H':KH} (h:Le H H') {sz n:Nat} {a:OA} {cs:List Value} (q:kold H sz a n=some cs):kold H' sz a n=some cs:=by
 unfold Ew.kold at q ⊢
 cases a with
 | none=>exact q
 | some a =>
   simp only at q ⊢
   cases hs:a.spot with
   | none=>simp only [hs] at q ⊢; exact h.load q
   | some s=>simp only [hs] at q ⊢; exact q
theorem Le.kcap {H H':KH} (h:Le H H') {a:Addr} {cap sz c:Nat} (q:kcap H a cap sz=some c):kcap H' a cap sz=some c:=by
 unfold Ew.kcap at q ⊢
 cases hb:Nat.blt cap unkU<;>simp only [hb,cond_true,cond_false] at q ⊢
 .split at q
  .cases q
  .rename_i e he
   simp only [h _ _ he]
   exact q
 .exact q
theorem rd_take {e:BT (Option Value)} {n i:Nat} {cs:List Value} (h:rd e i n=some cs) {m:Nat} (hm:m<=n):rd e i m=some (cs.take m):=by
 have hl:=rd_len h
 refine rd_some (by simp; omega) fun j v hv=>?_
 have hj:j<m:=by
  rcases Nat.lt_or_ge j m with q | q
  .exact q
  .rw [List.getElem?_eq_none (by simp; omega)] at hv; cases hv
 rw [List.getElem?_take_of_lt hj] at hv
 exact rd_get h j v hv
theorem rd_drop {e:BT (Option Value)} {n i:Nat} {cs:List Value} (h:rd e i n=some cs) {m:Nat} (hm:m<=n):rd e (i+m) (n-m)=some (cs.drop m):=by
 have hl:=rd_len h
 refine rd_some (by simp; omega) fun j v hv=>?_
 rw [List.getElem?_drop] at hv
 have:=rd_get h (m+j) v hv
 rw [<- this]; congr 1; omega
theorem kold_some {H:KH} {sz n:Nat} {b o:Nat} {cs:List Value}:kold H sz (some ⟨b,o,none⟩) n=some cs↔∃ e,H b=some e/\rd e.cells o (n*sz)=some cs:=by
 unfold kold KH.load
 simp only
 constructor
 .intro h
  cases hb:H b with
  | none=>rw [hb] at h; cases h
  | some e=>rw [hb] at h; exact ⟨e,rfl,h⟩
 .rintro ⟨e,h1,h2⟩
  rw [h1]
  exact h2
theorem kold_len {H:KH} {sz n:Nat} {a:OA} {cs:List Value} (h:kold H sz a n=some cs):cs.length=n*sz:=by
 unfold kold at h
 cases a with
 | none =>
   simp only at h
   cases hn:Nat.beq n 0<;>simp [hn] at h
   subst h
   simp [Nat.eq_of_beq_eq_true hn]
 | some a =>
   simp only at h
   cases hs:a.spot with
   | none =>
     simp only [hs] at h
     unfold KH.load at h
     split at h
     .exact rd_len h
     .cases h
   | some s =>
     simp only [hs] at h
     cases hn:Nat.beq n 0<;>simp [hn] at h
     subst h
     simp [Nat.eq_of_beq_eq_true hn]
def SlOk (H:KH) (sz:Nat) (a:OA) (n c:Nat):Prop:=match a with
 | none=>n=0
 | some b=>(b.spot=none/\∃ cl,kcap H b c sz=some cl/\n<=cl)\/(b.spot≠none/\n=0)
theorem cut_lo {H:KH} {sz n c k:Nat} {a:OA} {cs:List Value} (ho:SlOk H sz a n c) (hc:kold H sz a n=some cs) (hk:k<=n) :
 ∃ a' c',kslice H sz a n c none (some (.int .i64 (k:Int)))=some (.slice a' k c')/\kold H sz a' k=some (cs.take (k*sz)):=by
 have hn:natOf n (some (.int .i64 (k:Int)))=some k:=by simp [natOf]
 cases a with
 | none =>
   have hn0:n=0:=ho
   subst hn0
   have hk0:k=0:=by omega
   subst hk0
   refine ⟨none,c,?_,?_⟩
   .rfl
   .simp [kold]
 | some b =>
   rcases ho with ⟨hs,cl,hcl,hle⟩ | ⟨hs,hn0⟩
   case inr =>
    subst hn0
    have hk0:k=0:=by omega
    subst hk0
    obtain ⟨bb,bo,sp⟩:=b
    cases sp with
    | none=>exact absurd rfl hs
    | some sp=>exact ⟨some ⟨bb,bo,some sp⟩,c,rfl,by simp [kold]⟩
   obtain ⟨bb,bo,sp⟩:=b
   cases hs
   obtain ⟨e,he,hrd⟩:=kold_some.1 hc
   have hb:(Nat.ble 0 k&&Nat.ble k cl&&Nat.ble n cl&&(⟨bb,bo,none⟩:Addr).spot.isNone)=true:=by
    simp only [Bool.and_eq_true]
    exact ⟨⟨⟨Nat.ble_eq_true_of_le (Nat.zero_le _),Nat.ble_eq_true_of_le (by omega)⟩,Nat.ble_eq_true_of_le hle⟩,rfl⟩
   have hrd':rd e.cells bo (k*sz)=some (cs.take (k*sz)):=rd_take hrd (Nat.mul_le_mul_right _ hk)
   have hfin:kold H sz (some ⟨bb,bo,none⟩) k=some (cs.take (k*sz)):=kold_some.2 ⟨e,he,hrd'⟩
   unfold kslice
   have hz0:natOf 0 none=some 0:=rfl
   simp only [hn,hz0,hcl,hb,cond_true,Nat.zero_mul,Nat.add_zero,Nat.sub_zero]
   cases hlt:Nat.blt c unkU<;>simp only [cond_true,cond_false]
   .cases h0:Nat.blt 0 cl<;>simp only [cond_true,cond_false]
    .have hz:Nat.beq 0 0=true:=rfl
     simp only [hz,cond_true]
     exact ⟨_,_,rfl,hfin⟩
    .exact ⟨_,_,rfl,hfin⟩
   .cases h0:Nat.beq c 0<;>simp only [cond_true,cond_false]
    .exact ⟨_,_,rfl,hfin⟩
    .exact ⟨_,_,rfl,hfin⟩
inductive Own (H0 H:KH) (sz:Nat):OA->Nat->Nat->List Value->Prop where
 | nil:Own H0 H sz none 0 0 []
 | lit (b n:Nat) (cs:List Value) (h1:H b=some (mkEnt cs 0)) (h2:cs.length=n*sz) (h3:n<unkU) (h4:H0 b=none):Own H0 H sz (some ⟨b,0,none⟩) n n cs
 | grown (b n:Nat) (cs:List Value) (e:Ent) (h1:H b=some e) (h2:e.unk=sz) (h3:e.len=n*sz) (h4:rd e.cells 0 (n*sz)=some cs) (h5:H0 b=none) (h6:wrB e=true):Own H0 H sz (some ⟨b,0,none⟩) n unkU cs
theorem Own.cells {H0 H:KH} {sz n c:Nat} {a:OA} {cs:List Value} (h:Own H0 H sz a n c cs):kold H sz a n=some cs:=by
 cases h with
 | nil=>rfl
 | lit b _ _ h1 h2 =>
   refine kold_some.2 ⟨_,h1,?_⟩
   rw [<- h2]
   exact rd_some rfl fun j v hv=>by rw [Nat.zero_add]; simp only [mkEnt,tget_wr_nil]; exact hv
 | grown b _ _ e h1 h2 h3 h4=>exact kold_some.2 ⟨e,h1,h4⟩
def blk:OA->Option Nat
 | none=>none
 | some a=>some a.block
theorem Own.append {H0 H:KH} {ti:TI} {n c m nm:Nat} {a:OA} {cs new:List Value} (h:Own H0 H ti.size a n c cs) (hle:Le H0 H) (hnm:H nm=none) (hm:new.length=m*ti.size) (hs:n+m<=1000000) (hb:ti.bytes<=1000000) (hz:1<=ti.size) (hro:ti.size<=1000000:=by decide) :
 ∃ a' c' H',kappend H nm ti a n c m new=some (.slice a' (n+m) c',H')/\Own H0 H' ti.size a' (n+m) c' (cs++new)/\Le H0 H'/\(∀ k e,H k=some e->blk a≠some k->H' k=some e)/\(∀ k,H k=none->k≠nm->H' k=none):=by
 have hh:(Nat.ble (n+m) 1000000&&Nat.ble ti.bytes 1000000&&Nat.ble 1 ti.size)=true:=by
  simp only [Bool.and_eq_true]
  exact ⟨⟨Nat.ble_eq_true_of_le hs,Nat.ble_eq_true_of_le hb⟩,Nat.ble_eq_true_of_le hz⟩
 have h0n:H0 nm=none:=hle.none hnm
 have hput:∀ (k:Addr) (e:Ent),H k.block=some e->e.ob=none->H.put k []=H:=fun k e q1 q2=>by
  funext j
  simp only [KH.put,wr]
  split
  .rename_i ej
   subst ej
   rw [q1]
   cases e
   simp only at q2
   subst q2
   rfl
  .rfl
 have hwn:∀ cs,wrB (mkEnt cs ti.size)=true:=fun cs=>by
  unfold wrB mkEnt noOb
  have:Nat.beq ti.size roU=false:=by
   cases hb:Nat.beq ti.size roU with
   | false=>rfl
   | true=>have:=Nat.eq_of_beq_eq_true hb; unfold roU at this; omega
  simp [this]
 have hcl:=kold_len h.cells
 have mk:∀ H1:KH,Own H0 (H1.new nm (mkEnt (cs++new) ti.size)) ti.size (some ⟨nm,0,none⟩) (n+m) unkU (cs++new):=by
  intro H1
  have hlen:(cs++new).length=(n+m)*ti.size:=by rw [List.length_append,hcl,hm,Nat.add_mul]
  refine .grown nm _ _ (mkEnt (cs++new) ti.size) (by simp [KH.new]) rfl hlen ?_ h0n (hwn _)
  rw [<- hlen]
  exact rd_some rfl fun j v hv=>by rw [Nat.zero_add]; simp only [mkEnt,tget_wr_nil]; exact hv
 have frame:∀ k e,H k=some e->(H.new nm (mkEnt (cs++new) ti.size)) k=some e:=fun k e q=>Le.new hnm k e q
 have hnew0:m=0->new=[]:=fun e=>List.eq_nil_of_length_eq_zero (by rw [hm,e,Nat.zero_mul])
 have hlt0:∀ p q:Nat,¬ p<=q->Nat.ble p q=false:=fun p q hh=>by
  cases hb:Nat.ble p q with
  | false=>rfl
  | true=>exact absurd (Nat.le_of_ble_eq_true hb) hh
 cases h with
 | nil =>
   have hb0:Nat.blt 0 unkU=true:=rfl
   unfold kappend
   simp only [hh,cond_true,hb0]
   by_cases hm0:m=0
   .subst hm0
    rw [hnew0 rfl]
    exact ⟨none,0,H,rfl,.nil,hle,fun k e q _=>q,fun k q _=>q⟩
   .rw [hlt0 (0+m) 0 (by omega)]
    simp only [cond_false]
    exact ⟨_,_,_,rfl,mk H,hle.trans (Le.new hnm),fun k e q _=>frame k e q,fun k q hk=>by simp only [KH.new,if_neg hk]; exact q⟩
 | lit b _ _ h1 h2 h3 h4 =>
   have hb0:Nat.blt n unkU=true:=Nat.ble_eq_true_of_le h3
   unfold kappend
   simp only [hh,cond_true,hb0]
   by_cases hm0:m=0
   .subst hm0
    rw [hnew0 rfl,show Nat.ble (n+0) n=true from Nat.ble_eq_true_of_le (by omega)]
    have hst:kstore H ⟨b,0+n*ti.size,none⟩ []=some H:=by
     unfold kstore
     have hw0:wrB (mkEnt cs 0)=true:=rfl
     simp only [h1,List.length_nil,rd,hw0,cond_true]
     rw [hput _ _ h1 rfl]
    simp only [cond_true,hst,ob,List.append_nil]
    exact ⟨_,_,_,rfl,.lit b n cs h1 h2 h3 h4,hle,fun k e q _=>q,fun k q _=>q⟩
   .rw [hlt0 (n+m) n (by omega)]
    have hk:=(Own.lit (H0:=H0) (H:=H) (sz:=ti.size) b n cs h1 h2 h3 h4).cells
    simp only [cond_false,hk,ob]
    exact ⟨_,_,_,rfl,mk H,hle.trans (Le.new hnm),fun k e q _=>frame k e q,fun k q hk=>by simp only [KH.new,if_neg hk]; exact q⟩
 | grown b _ _ e h1 h2 h3 h4 h5 h6 =>
   have hb0:Nat.blt unkU unkU=false:=rfl
   unfold kappend
   have hq:(Nat.beq e.unk ti.size&&Nat.beq 0 ((unkU-unkU)*ti.size)&&(none:Option Nat).isNone&&wrB e)=true:=by
    rw [h2,Nat.sub_self,Nat.zero_mul,h6]
    simp
   simp only [hh,cond_true,hb0,cond_false,h1,hq]
   by_cases hm0:m=0
   .subst hm0
    rw [hnew0 rfl,show Nat.ble (0+(n+0)*ti.size) e.len=true from Nat.ble_eq_true_of_le (by rw [h3,Nat.add_zero,Nat.zero_add]; exact Nat.le_refl _)]
    have hst:kstore H ⟨b,0+n*ti.size,none⟩ []=some H:=by
     unfold kstore
     simp only [h1,List.length_nil,rd,h6,cond_true]
     rw [hput _ _ h1 (wrB_spec h6).2]
    simp only [cond_true,hst,ob,List.append_nil]
    exact ⟨_,_,_,rfl,.grown b n cs e h1 h2 h3 h4 h5 h6,hle,fun k e q _=>q,fun k q _=>q⟩
   .have hgt:¬ (0+(n+m)*ti.size<=e.len):=by
     rw [h3,Nat.add_mul]
     have:1*1<=m*ti.size:=Nat.mul_le_mul (by omega) hz
     omega
    rw [hlt0 _ _ hgt]
    simp only [cond_false,h4,ob]
    have hd:∀ k e',H k=some e'->some b≠some k->((H.del b).new nm (mkEnt (cs++new) ti.size)) k=some e':=by
     intro k e' q hne
     simp only [KH.new,KH.del]
     rw [if_neg (fun e1=>by subst e1; rw [hnm] at q; cases q),if_neg (fun e1=>hne (by rw [e1]))]
     exact q
    refine ⟨_,_,_,rfl,mk (H.del b),fun k e' q=>hd k e' (hle k e' q) (fun e1=>?_),fun k e' q hne=>hd k e' q hne,fun k q hk=>by
     simp only [KH.new,KH.del,if_neg hk]
     split
     .rfl
     .exact q⟩
    cases e1
    rw [h5] at q
    cases q
structure BdX (T e:Nat) (X H:KH) (nm:Nat) (s:ByteArray):Prop where
 le:Le X H
 out:X nm=none
 is:(s=⟨#[]⟩/\H nm=some (bldE T e nm none))\/∃ nb,nb≠nm/\X nb=none/\H nm=some (bldE T e nm (some (nb,s.size)))/\H nb=some (bytE e nb s)/\0<s.size
theorem wrap64 {x:Int} (h1 : -9223372036854775808<=x) (h2:x<=9223372036854775807):IntKind.wrap .i64 x=x:=IntWalk.i64_in x ⟨h1,h2⟩
inductive V where
 | mk (k i:Int) (s:ByteArray) (l:List V)
structure Row {α:Type} (c:α->α->Int) (x y z:α):Prop where
 neg:c y x = -c x y
 rng:c x y = -1\/c x y=0\/c x y=1
 t1:c x y<=0->c y z<=0->c x z<=0
 t2:c x y<0->c y z<=0->c x z<0
 t3:c x y<=0->c y z<0->c x z<0
theorem new_del {H:KH} {n:Nat} {e:Ent} (h:H n=none):(H.new n e).del n=H:=by
 funext k
 simp only [KH.new,KH.del]
 by_cases hk:k=n
 .subst hk; simp [h]
 .simp [hk]
theorem Le.kslice {H H':KH} (h:Le H H') {sz n c:Nat} {a:OA} {lo hi:Option Value} {v:Value} (q:kslice H sz a n c lo hi=some v):kslice H' sz a n c lo hi=some v:=by
 unfold Ew.kslice at q ⊢
 cases a with
 | none=>exact q
 | some b =>
   simp only at q ⊢
   cases hsn:b.spot.isNone with
   | false=>rw [hsn] at q; exact q
   | true =>
   rw [hsn,cond_true] at q
   rw [cond_true]
   cases hk:Ew.kcap H b c sz with
   | some x=>rw [hk] at q; rw [h.kcap hk]; exact q
   | none=>rw [hk] at q; split at q<;>simp_all
theorem Own.mono {H0 H H':KH} (h:Le H H') {sz n c:Nat} {a:OA} {cs:List Value} (q:Own H0 H sz a n c cs):Own H0 H' sz a n c cs:=by
 cases q with
 | nil=>exact .nil
 | lit b _ _ h1 h2 h3 h4=>exact .lit b n cs (h _ _ h1) h2 h3 h4
 | grown b _ _ e h1 h2 h3 h4 h5 h6=>exact .grown b n cs e (h _ _ h1) h2 h3 h4 h5 h6
theorem knew_of {H:KH} {ti:TI} {a:OA} {n c:Nat} {cs:List Value} (h:kold H ti.size a n=some cs):knew H ti (.slice a n c)=some (n,cs):=by
 cases a with
 | none =>
   unfold kold at h
   unfold knew
   cases hn:Nat.beq n 0<;>simp [hn] at h ⊢
   subst h
   exact ⟨(Nat.eq_of_beq_eq_true hn).symm,rfl⟩
 | some b=>unfold knew; simp only [h,ob]
theorem back_new {H H':KH} {n:Nat} {e:Ent}:backK (H.new n e) H' [n]=H'.new n e:=by
 funext k
 simp only [backK,KH.new]
 by_cases hk:k=n<;>simp [hk]
theorem mk_rd {cs:List Value} {u:Nat}:rd (mkEnt cs u).cells 0 cs.length=some cs:=rd_some rfl fun j v hv=>by rw [Nat.zero_add]; simp only [mkEnt,tget_wr_nil]; exact hv
inductive Gr (H:KH) (sz:Nat):OA->Nat->Nat->List Value->List Value->Prop where
 | nil:Gr H sz none 0 0 [] []
 | on (b n:Nat) (e:Ent) (cs ex:List Value) (h1:H b=some e) (h2:e.unk=sz) (h3:e.len=(cs++ex).length) (h4:rd e.cells 0 (cs++ex).length=some (cs++ex)) (h5:wrB e=true) (h6:cs.length=n*sz):Gr H sz (some ⟨b,0,none⟩) n unkU cs ex
theorem ldSub {H:KH} {b o:Nat} {cs:List Value} (h:ld H ⟨b,o,none⟩ cs) (j m:Nat) (hj:j+m<=cs.length):ld H ⟨b,o+j,none⟩ ((cs.drop j).take m):=by
 obtain ⟨_,e,he,hr⟩:=h
 have h1:=rd_drop hr (m:=j) (by omega)
 have h2:=rd_take h1 (m:=m) (by omega)
 refine ⟨rfl,e,he,?_⟩
 have:((cs.drop j).take m).length=m:=by simp; omega
 rw [this]
 exact h2
theorem rdWr {e:BT (Option Value)} {N o:Nat} {xs ys zs vs:List Value} (h:rd e 0 N=some (xs++ys++zs)) (hx:xs.length=o) (hy:ys.length=vs.length):rd (wr e o vs) 0 N=some (xs++vs++zs):=by
 have hl:=rd_len h
 refine rd_some (by simp at hl ⊢; omega) fun j v hv=>?_
 rw [Nat.zero_add,tget_wr]
 by_cases hb:o<=j/\j<o+vs.length
 .rw [if_pos hb]
  rw [List.append_assoc,List.getElem?_append_right (by omega),List.getElem?_append_left (by omega)] at hv
  rw [hx] at hv
  exact hv
 .rw [if_neg hb]
  have:=rd_get h j v ?_
  .simpa using this
  .by_cases hj:j<o
   .rw [List.append_assoc,List.getElem?_append_left (by omega)] at hv ⊢
    exact hv
   .rw [List.getElem?_append_right (by simp; omega)] at hv ⊢
    simp only [List.length_append] at hv ⊢
    rw [hy]
    exact hv
theorem put_ne {H:KH} {p o:Nat} {vs:List Value} {k:Nat} {e:Ent} (hk:k≠p) (q:H k=some e):(H.put ⟨p,o,none⟩ vs) k=some e:=by
 simp only [KH.put]; rw [if_neg hk]; exact q
theorem lit_kold {H:KH} {b sz n:Nat} {cs:List Value} (hb:H b=some (mkEnt cs 0)) (hl:cs.length=n*sz):kold H sz (some ⟨b,0,none⟩) n=some cs:=by
 refine kold_some.2 ⟨_,hb,?_⟩
 rw [<- hl]
 exact rd_some rfl fun j v hv=>by rw [Nat.zero_add]; simp only [mkEnt,tget_wr_nil]; exact hv
theorem rowAddr {H:KH} {sz n:Nat} {a:OA} {cs:List Value} (h:kold H sz a n=some cs) (hn:0<n):∃ b o,a=some ⟨b,o,none⟩/\∀ k m,k+m<=n*sz->ld H ⟨b,o+k,none⟩ ((cs.drop k).take m):=by
 have hl:=kold_len h
 have hnb:Nat.beq n 0=false:=by
  cases hq:Nat.beq n 0 with
  | false=>rfl
  | true=>have:=Nat.eq_of_beq_eq_true hq; omega
 cases a with
 | none=>unfold kold at h; rw [hnb] at h; cases h
 | some ad =>
   obtain ⟨b,o,sp⟩:=ad
   cases sp with
   | some x=>simp only [kold] at h; rw [hnb] at h; cases h
   | none =>
     obtain ⟨e,he,hr⟩:=kold_some.1 h
     refine ⟨b,o,rfl,fun k m hkm=>?_⟩
     exact ldSub ⟨rfl,e,he,by rw [hl]; exact hr⟩ k m (by omega)
theorem bytes_loop (bs:ByteArray):∀ (n i:Nat) (r:List UInt8),n=bs.size-i->ByteArray.toList.loop bs i r=r.reverse++bs.data.toList.drop i
 | 0,i,r,h=>by
   rw [ByteArray.toList.loop,if_neg (by omega),List.drop_eq_nil_of_le (by show bs.size<=i; omega),List.append_nil]
 | n+1,i,r,h=>by
   have hi:i<bs.size:=by omega
   have hl:i<bs.data.toList.length:=hi
   rw [ByteArray.toList.loop,if_pos hi,bytes_loop bs n (i+1) _ (by omega),List.drop_eq_getElem_cons hl]
   have:bs.get! i=bs.data.toList[i]:=by
    have hd:i<bs.data.size:=hi
    show bs.data[i]! = _
    rw [getElem!_pos bs.data i hd]
    simp
   rw [this]
   simp
theorem bytes_list (bs:ByteArray):bs.toList=bs.data.toList:=by
 unfold ByteArray.toList
 rw [bytes_loop bs _ 0 [] rfl]
 simp
theorem strEq_iff {x y:ByteArray}:strEq x y=true↔x=y:=by
 unfold strEq
 rw [bytes_list,bytes_list,beq_iff_eq]
 constructor
 .intro h
  obtain ⟨⟨a⟩⟩:=x
  obtain ⟨⟨b⟩⟩:=y
  have h:a=b:=h
  rw [h]
 .intro h; rw [h]
theorem le_del {X H:KH} {n:Nat} (h:Le X H) (hn:X n=none):Le X (H.del n):=fun k e q=>by
 simp only [KH.del]
 rw [if_neg (fun z=>by subst z; rw [hn] at q; cases q)]
 exact h k e q
theorem del_at {H:KH} {n k:Nat} {e:Ent} (q:H k=some e) (h:k≠n):(H.del n) k=some e:=by simp only [KH.del]; rw [if_neg h]; exact q
theorem put_at {H:KH} {p o:Nat} {vs:List Value} {e:Ent} (q:H p=some e):(H.put ⟨p,o,none⟩ vs) p=some ⟨wr e.cells o vs,e.len,e.unk,none⟩:=by simp only [KH.put,if_true,q,Option.map_some]
theorem new_at {H:KH} {n k:Nat} {e e':Ent} (q:H k=some e) (h:k≠n):(H.new n e') k=some e:=by simp only [KH.new]; rw [if_neg h]; exact q
theorem le_put {X H:KH} {p o:Nat} {vs:List Value} (h:Le X H) (hn:X p=none):Le X (H.put ⟨p,o,none⟩ vs):=fun k e' q=>put_ne (fun z=>by subst z; rw [hn] at q; cases q) (h k e' q)
structure BoxI (H:KH) (b:Nat) (v:Value):Prop where
 ex:∃ e,H b=some e/\wrB e=true/\rd e.cells 0 1=some [v]
theorem ne_of {H:KH} {a b:Nat} {e:Ent} (h1:H a=some e) (h2:H b=none):a≠b:=fun z=>by subst z; rw [h2] at h1; cases h1
def inC (l:List Int):List Value:=l.map (.int .i64)
theorem inC_len (l:List Int):(inC l).length=l.length:=List.length_map _
theorem inC_app (l m:List Int):inC (l++m)=inC l++inC m:=List.map_append
theorem in_ld {H:KH} {a:OA} {l:List Int} (h:kold H 1 a l.length=some (inC l)) {i:Nat} (hi:i<l.length):∃ b o,a=some ⟨b,o,none⟩/\ld H ⟨b,o+i*1,none⟩ [.int .i64 l[i]]:=by
 obtain ⟨b,o,e,r⟩:=rowAddr h (by omega)
 refine ⟨b,o,e,?_⟩
 have:=r (i*1) 1 (by omega)
 have hg:((inC l).drop (i*1)).take 1=[.int .i64 l[i]]:=by
  rw [Nat.mul_one,List.drop_eq_getElem_cons (by rw [inC_len]; exact hi)]
  simp [inC]
 rw [hg] at this
 exact this
theorem Own.has {H0 H:KH} {sz n c:Nat} {a:OA} {cs:List Value} (h:Own H0 H sz a n c cs) {b:Nat} (hb:blk a=some b):(∃ e,H b=some e)/\H0 b=none:=by
 cases h with
 | nil=>cases hb
 | lit b' _ _ h1 h2 h3 h4 =>
   have z:b'=b:=Option.some.inj hb
   subst z
   exact ⟨⟨_,h1⟩,h4⟩
 | grown b' _ _ e h1 h2 h3 h4 h5 h6 =>
   have z:b'=b:=Option.some.inj hb
   subst z
   exact ⟨⟨e,h1⟩,h5⟩
theorem Own.base {H0 H1 H H':KH} {sz n c:Nat} {a:OA} {cs:List Value} (h:Own H0 H sz a n c cs) (h0:∀ b,blk a=some b->H1 b=none) (hk:∀ k e,blk a=some k->H k=some e->H' k=some e):Own H1 H' sz a n c cs:=by
 cases h with
 | nil=>exact .nil
 | lit b _ _ h1 h2 h3 h4=>exact .lit b n cs (hk _ _ rfl h1) h2 h3 (h0 b rfl)
 | grown b _ _ e h1 h2 h3 h4 h5 h6=>exact .grown b n cs e (hk _ _ rfl h1) h2 h3 h4 (h0 b rfl) h6
theorem Le.new2 {X H:KH} {n:Nat} {e:Ent} (h:Le X H):Le (X.new n e) (H.new n e):=fun k e' q=>by
 simp only [KH.new] at q ⊢
 by_cases z:k=n
 .rw [if_pos z] at q ⊢; exact q
 .rw [if_neg z] at q ⊢; exact h _ _ q
theorem new_none {H:KH} {n k:Nat} {e:Ent} (q:H k=none) (h:k≠n):(H.new n e) k=none:=by simp only [KH.new]; rw [if_neg h]; exact q
inductive Gs (H:KH) (sz:Nat):OA->Nat->Nat->List Value->Prop where
 | nil:Gs H sz none 0 0 []
 | on (b o n:Nat) (e:Ent) (pre cs ex:List Value) (h1:H b=some e) (h2:e.unk=sz) (h3:e.len=(pre++cs++ex).length) (h4:rd e.cells 0 (pre++cs++ex).length=some (pre++cs++ex)) (h5:wrB e=true) (h6:pre.length=o*sz) (h7:cs.length=n*sz):Gs H sz (some ⟨b,o*sz,none⟩) n (unkU+o) cs
theorem Gs.has {H:KH} {sz n c:Nat} {a:OA} {cs:List Value} (h:Gs H sz a n c cs) {b:Nat} (hb:blk a=some b):∃ e,H b=some e:=by
 cases h with
 | nil=>cases hb
 | on b' o _ e pre _ ex h1 =>
   have z:b'=b:=Option.some.inj hb
   subst z
   exact ⟨e,h1⟩
theorem Gs.row {H:KH} {sz n c:Nat} {a:OA} {cs:List Value} (h:Gs H sz a n c cs):kold H sz a n=some cs:=by
 cases h with
 | nil=>rfl
 | on b o _ e pre _ ex h1 h2 h3 h4 h5 h6 h7 =>
   refine kold_some.2 ⟨e,h1,?_⟩
   have r1:=rd_drop h4 (m:=pre.length) (by simp)
   have r2:=rd_take r1 (m:=cs.length) (by simp [Nat.add_assoc])
   rw [List.append_assoc,List.drop_left,List.take_left,Nat.zero_add] at r2
   rw [<- h6,<- h7]; exact r2
theorem Gs.agree {H H':KH} {sz n c:Nat} {a:OA} {cs:List Value} (h:Gs H sz a n c cs) (hk:∀ k e,blk a=some k->H k=some e->H' k=some e):Gs H' sz a n c cs:=by
 cases h with
 | nil=>exact .nil
 | on b o _ e pre _ ex h1 h2 h3 h4 h5 h6 h7=>exact .on b o n e pre cs ex (hk b e rfl h1) h2 h3 h4 h5 h6 h7
theorem Gs.ok {H:KH} {sz n c:Nat} {a:OA} {cs:List Value} (h:Gs H sz a n c cs) (hz:1<=sz):SlOk H sz a n c:=by
 cases h with
 | nil=>rfl
 | on b o _ e pre _ ex h1 h2 h3 h4 h5 h6 h7 =>
   have hb0:Nat.blt (unkU+o) unkU=false:=by
    cases hb:Nat.blt (unkU+o) unkU with
    | false=>rfl
    | true=>have:=Nat.le_of_ble_eq_true hb; omega
   have hlen:(pre++cs++ex).length=o*sz+n*sz+ex.length:=by rw [List.length_append,List.length_append,h6,h7]
   refine .inl ⟨rfl,(e.len-o*sz)/sz,?_,?_⟩
   .unfold kcap
    simp only [hb0,cond_false,h1,h2,Nat.add_sub_cancel_left]
    have hc:(Nat.beq sz sz&&Nat.beq (o*sz) (o*sz)&&Nat.ble 1 sz&&Nat.ble (o*sz) e.len)=true:=by
     simp only [Bool.and_eq_true]
     exact ⟨⟨⟨by simp,by simp⟩,Nat.ble_eq_true_of_le hz⟩,Nat.ble_eq_true_of_le (by rw [h3,hlen]; omega)⟩
    rw [hc]; rfl
   .rw [h3,hlen,Nat.le_div_iff_mul_le hz]; omega
theorem Gs.cut {H:KH} {sz n c m:Nat} {a:OA} {cs:List Value} (h:Gs H sz a n c cs) (hm:m<=n) (hz:1<=sz):kslice H sz a n c none (some (.int .i64 (m:Int)))=some (.slice a m c)/\Gs H sz a m c (cs.take (m*sz)):=by
 have hn:natOf n (some (.int .i64 (m:Int)))=some m:=by simp [natOf]
 have ho:=h.ok hz
 cases h with
 | nil =>
   have hm0:m=0:=by omega
   subst hm0
   exact ⟨rfl,by simpa using Gs.nil⟩
 | on b o _ e pre _ ex h1 h2 h3 h4 h5 h6 h7 =>
   have hb0:Nat.blt (unkU+o) unkU=false:=by
    cases hb:Nat.blt (unkU+o) unkU with
    | false=>rfl
    | true=>have:=Nat.le_of_ble_eq_true hb; omega
   constructor
   .rcases ho with ⟨_,cl,hcl,hle⟩ | ⟨z,_⟩
    case inr=>exact absurd rfl z
    have hb:(Nat.ble 0 m&&Nat.ble m cl&&Nat.ble n cl&&true)=true:=by
     simp only [Bool.and_eq_true]
     exact ⟨⟨⟨Nat.ble_eq_true_of_le (Nat.zero_le _),Nat.ble_eq_true_of_le (by omega)⟩,Nat.ble_eq_true_of_le hle⟩,trivial⟩
    unfold kslice
    have hz0:natOf 0 none=some 0:=rfl
    have hs:(⟨b,o*sz,none⟩:Addr).spot.isNone=true:=rfl
    simp only [hn,hz0,hcl,hb,hs,cond_true,Nat.zero_mul,Nat.add_zero,Nat.sub_zero,hb0,cond_false]
    cases h0:Nat.blt 0 cl<;>rfl
   .have hl:m*sz<=cs.length:=by rw [h7]; exact Nat.mul_le_mul_right _ hm
    have hcs:pre++cs++ex=pre++cs.take (m*sz)++(cs.drop (m*sz)++ex):=by
     rw [List.append_assoc,List.append_assoc,<- List.append_assoc (cs.take _),List.take_append_drop]
    rw [hcs] at h3 h4
    exact .on b o m e pre (cs.take (m*sz)) (cs.drop (m*sz)++ex) h1 h2 h3 h4 h5 h6 (by rw [List.length_take]; omega)
theorem kold_drop {H:KH} {sz n m b o:Nat} {cs:List Value} (h:kold H sz (some ⟨b,o,none⟩) n=some cs) (hm:m<=n):kold H sz (some ⟨b,o+m*sz,none⟩) (n-m)=some (cs.drop (m*sz)):=by
 obtain ⟨e,h1,h2⟩:=kold_some.1 h
 have hl:cs.length=n*sz:=kold_len h
 have hms:m*sz<=n*sz:=Nat.mul_le_mul_right _ hm
 have h2':rd e.cells o (n*sz)=some cs:=h2
 have r1:=rd_drop h2' (m:=m*sz) hms
 refine kold_some.2 ⟨e,h1,?_⟩
 rw [<- Nat.sub_mul] at r1
 exact r1
theorem Gs.cutAt {H:KH} {sz n c m:Nat} {a:OA} {cs:List Value} (h:Gs H sz a n c cs) (hm:m<=n) (hz:1<=sz):∃ a' c',kslice H sz a n c (some (.int .i64 (m:Int))) none=some (.slice a' (n-m) c')/\kold H sz a' (n-m)=some (cs.drop (m*sz)):=by
 have ho:=h.ok hz
 have hrow:=h.row
 have hn:natOf 0 (some (.int .i64 (m:Int)))=some m:=by simp [natOf]
 cases h with
 | nil =>
   have hm0:m=0:=by omega
   subst hm0
   exact ⟨none,0,rfl,by simp [Ew.kold]⟩
 | on b o _ e pre _ ex h1 h2 h3 h4 h5 h6 h7 =>
   have hb0:Nat.blt (unkU+o) unkU=false:=by
    cases hb:Nat.blt (unkU+o) unkU with
    | false=>rfl
    | true=>have:=Nat.le_of_ble_eq_true hb; omega
   rcases ho with ⟨_,cl,hcl,hle⟩ | ⟨z,_⟩
   case inr=>exact absurd rfl z
   have hb:(Nat.ble m n&&Nat.ble n cl&&Nat.ble n cl&&true)=true:=by
    simp only [Bool.and_eq_true]
    exact ⟨⟨⟨Nat.ble_eq_true_of_le hm,Nat.ble_eq_true_of_le hle⟩,Nat.ble_eq_true_of_le hle⟩,trivial⟩
   have hz0:natOf n none=some n:=rfl
   have hs:(⟨b,o*sz,none⟩:Addr).spot.isNone=true:=rfl
   unfold kslice
   simp only [hn,hz0,hcl,hb,hs,cond_true,hb0,cond_false]
   cases hlt:Nat.blt m cl
   .have hmc:cl<=m:=by
     rcases Nat.lt_or_ge m cl with q | q
     .have:Nat.blt m cl=true:=Nat.ble_eq_true_of_le q
      rw [this] at hlt; cases hlt
     .exact q
    have hmn:m=n:=by omega
    have hd:cs.drop (m*sz)=[]:=List.drop_eq_nil_of_le (by rw [h7,hmn]; exact Nat.le_refl _)
    cases h0:Nat.beq m 0
    .refine ⟨some ⟨0,0,some 0⟩,unkU,?_,?_⟩
     .rw [hmn,Nat.sub_self]; rfl
     .rw [hd,hmn,Nat.sub_self]; rfl
    .have h0:=Nat.eq_of_beq_eq_true h0
     refine ⟨some ⟨b,o*sz,none⟩,unkU+o,by rw [h0]; rfl,?_⟩
     rw [h0,Nat.zero_mul,List.drop_zero,Nat.sub_zero]
     exact hrow
   .exact ⟨_,_,rfl,kold_drop hrow hm⟩
theorem cutLit {H:KH} {sz n m b o:Nat} {cs:List Value} (h:kold H sz (some ⟨b,o,none⟩) n=some cs) (hm:m<=n) (hu:n<unkU):∃ a' c',kslice H sz (some ⟨b,o,none⟩) n n (some (.int .i64 (m:Int))) none=some (.slice a' (n-m) c')/\kold H sz a' (n-m)=some (cs.drop (m*sz)):=by
 have hn:natOf 0 (some (.int .i64 (m:Int)))=some m:=by simp [natOf]
 have hz0:natOf n none=some n:=rfl
 have hs:(⟨b,o,none⟩:Addr).spot.isNone=true:=rfl
 have hlt:Nat.blt n unkU=true:=Nat.ble_eq_true_of_le hu
 have hc:kcap H ⟨b,o,none⟩ n sz=some n:=by unfold kcap; rw [hlt]; rfl
 have hb:(Nat.ble m n&&Nat.ble n n&&Nat.ble n n&&true)=true:=by
  simp only [Bool.and_eq_true]
  exact ⟨⟨⟨Nat.ble_eq_true_of_le hm,Nat.ble_eq_true_of_le (Nat.le_refl _)⟩,Nat.ble_eq_true_of_le (Nat.le_refl _)⟩,trivial⟩
 unfold kslice
 simp only [hn,hz0,hc,hb,hs,cond_true,hlt]
 refine ⟨_,_,rfl,?_⟩
 cases hq:Nat.beq n m
 .exact kold_drop h hm
 .have hq:=Nat.eq_of_beq_eq_true hq
  obtain ⟨e,h1,_⟩:=kold_some.1 h
  subst hq
  rw [Nat.sub_self,List.drop_eq_nil_of_le (by rw [kold_len h]; exact Nat.le_refl _)]
  refine kold_some.2 ⟨e,h1,?_⟩
  rw [Nat.zero_mul]; rfl
section
variable {α : Type} {f : α -> List Value} {k : Nat}
theorem fm_len (hf:∀ x,(f x).length=k):∀ l:List α,(l.flatMap f).length=l.length*k
 | []=>by simp
 | x :: l=>by rw [List.flatMap_cons,List.length_append,hf,fm_len hf l,List.length_cons,Nat.add_mul]; omega
theorem fm_cut (hf:∀ x,(f x).length=k) (l:List α) (i:Nat):(l.flatMap f).drop (i*k)=(l.drop i).flatMap f/\(l.flatMap f).take (i*k)=(l.take i).flatMap f:=by
 induction l generalizing i with
 | nil=>simp
 | cons x l ih =>
   cases i with
   | zero=>simp
   | succ i =>
     have e:(i+1)*k=(f x).length+i*k:=by rw [hf,Nat.add_mul]; omega
     rw [List.flatMap_cons,e,List.drop_append,List.take_append,Nat.add_sub_cancel_left,List.drop_eq_nil_of_le (by omega),List.take_of_length_le (by omega),(ih i).1,(ih i).2]
     simp
theorem fm_at (hf:∀ x,(f x).length=k) {l:List α} {i:Nat} (hi:i<l.length):((l.flatMap f).drop (i*k)).take k=f l[i]:=by
 rw [(fm_cut hf l i).1,List.drop_eq_getElem_cons hi,List.flatMap_cons,List.take_append_of_le_length (by rw [hf]; exact Nat.le_refl _),List.take_of_length_le (by rw [hf]; exact Nat.le_refl _)]
theorem it_ld (hf:∀ x,(f x).length=k) {H:KH} {a:OA} {l:List α} (h:kold H k a l.length=some (l.flatMap f)) {i:Nat} (hi:i<l.length):∃ b o,a=some ⟨b,o,none⟩/\ld H ⟨b,o+i*k,none⟩ (f l[i]):=by
 obtain ⟨b,o,e,r⟩:=rowAddr h (by omega)
 refine ⟨b,o,e,?_⟩
 have h2:(i+1)*k<=l.length*k:=Nat.mul_le_mul_right _ hi
 rw [Nat.add_mul,Nat.one_mul] at h2
 have:=r (i*k) k h2
 rw [fm_at hf hi] at this
 exact this
end
def sC (l:List ByteArray):List Value:=l.flatMap fun s=>[.string s]
theorem sC_len (l:List ByteArray):(sC l).length=l.length:=by unfold sC; rw [fm_len (k:=1) (fun _=>rfl),Nat.mul_one]
theorem sC_app (l m:List ByteArray):sC (l++m)=sC l++sC m:=List.flatMap_append
theorem s_ld {H:KH} {a:OA} {l:List ByteArray} (h:kold H 1 a l.length=some (sC l)) {i:Nat} (hi:i<l.length):∃ b o,a=some ⟨b,o,none⟩/\ld H ⟨b,o+i*1,none⟩ [.string l[i]]:=it_ld (k:=1) (f:=fun s=>[.string s]) (fun _=>rfl) h hi
theorem Gs.appends {H:KH} {ti:TI} {n c nm m:Nat} {a:OA} {cs new:List Value} (h:Gs H ti.size a n c cs) (hnm:H nm=none) (hm:new.length=m*ti.size) (hs:n+m<=1000000) (hb:ti.bytes<=1000000) (hz:1<=ti.size) (hro:ti.size<=1000000:=by decide) :
 ∃ a' c' H',kappend H nm ti a n c m new=some (.slice a' (n+m) c',H')/\Gs H' ti.size a' (n+m) c' (cs++new)/\(∀ k e,H k=some e->blk a≠some k->H' k=some e)/\(∀ b,blk a'=some b->blk a=some b\/b=nm):=by
 have hh:(Nat.ble (n+m) 1000000&&Nat.ble ti.bytes 1000000&&Nat.ble 1 ti.size)=true:=by
  simp only [Bool.and_eq_true]
  exact ⟨⟨Nat.ble_eq_true_of_le hs,Nat.ble_eq_true_of_le hb⟩,Nat.ble_eq_true_of_le hz⟩
 have hwn:∀ cs,wrB (mkEnt cs ti.size)=true:=fun cs=>by
  unfold wrB mkEnt noOb
  have:Nat.beq ti.size roU=false:=by
   cases hb:Nat.beq ti.size roU with
   | false=>rfl
   | true=>have:=Nat.eq_of_beq_eq_true hb; unfold roU at this; omega
  simp [this]
 have hlt0:∀ p q:Nat,¬ p<=q->Nat.ble p q=false:=fun p q hh=>by
  cases hb:Nat.ble p q with
  | false=>rfl
  | true=>exact absurd (Nat.le_of_ble_eq_true hb) hh
 have mk:∀ H1:KH,cs.length=n*ti.size->Gs (H1.new nm (mkEnt (cs++new) ti.size)) ti.size (some ⟨nm,0,none⟩) (n+m) unkU (cs++new):=by
  intro H1 hcl
  have:=Gs.on (sz:=ti.size) nm 0 (n+m) (mkEnt (cs++new) ti.size) [] (cs++new) [] (H:=H1.new nm (mkEnt (cs++new) ti.size)) (by simp [KH.new]) rfl (by simp [mkEnt]) (by
   rw [List.append_nil,List.nil_append]
   exact rd_some rfl fun j v hv=>by rw [Nat.zero_add]; simp only [mkEnt,tget_wr_nil]; exact hv) (hwn _) (by simp) (by simp [hcl,hm,Nat.add_mul])
  rw [Nat.zero_mul,Nat.add_zero] at this
  exact this
 cases h with
 | nil =>
   have hb0:Nat.blt 0 unkU=true:=rfl
   unfold kappend
   simp only [hh,cond_true,hb0]
   by_cases hm0:m=0
   .subst hm0
    have:new=[]:=List.eq_nil_of_length_eq_zero (by omega)
    subst this
    exact ⟨none,0,H,rfl,.nil,fun k e q _=>q,fun b q=>(by cases q)⟩
   rw [hlt0 (0+m) 0 (by omega)]
   simp only [cond_false]
   exact ⟨_,_,_,rfl,mk H (by simp),fun k e q _=>Le.new hnm k e q,fun b q=>by cases q; exact .inr rfl⟩
 | on b o _ e pre _ ex h1 h2 h3 h4 h5 h6 h7 =>
   have hb0:Nat.blt (unkU+o) unkU=false:=hlt0 _ _ (by omega)
   unfold kappend
   have hq:(Nat.beq e.unk ti.size&&Nat.beq (o*ti.size) ((unkU+o-unkU)*ti.size)&&(none:Option Nat).isNone&&wrB e)=true:=by
    rw [h2,Nat.add_sub_cancel_left,h5]
    simp
   simp only [hh,cond_true,hb0,cond_false,h1,hq]
   have hlen:(pre++cs++ex).length=o*ti.size+n*ti.size+ex.length:=by rw [List.length_append,List.length_append,h6,h7]
   have hrow:rd e.cells (o*ti.size) (n*ti.size)=some cs:=by
    have r1:=rd_drop h4 (m:=pre.length) (by simp)
    have r2:=rd_take r1 (m:=cs.length) (by simp [Nat.add_assoc])
    rw [List.append_assoc,List.drop_left,List.take_left,Nat.zero_add] at r2
    rw [<- h6,<- h7]; exact r2
   by_cases hin:o*ti.size+(n+m)*ti.size<=e.len
   .rw [show Nat.ble (o*ti.size+(n+m)*ti.size) e.len=true from Nat.ble_eq_true_of_le hin]
    have hex:m*ti.size<=ex.length:=by rw [h3,hlen,Nat.add_mul] at hin; omega
    have hrd:rd e.cells (o*ti.size+n*ti.size) new.length=some (ex.take (m*ti.size)):=by
     have r1:=rd_drop h4 (m:=(pre++cs).length) (by simp)
     have r2:=rd_take r1 (m:=m*ti.size) (by simp; omega)
     rw [List.drop_left,Nat.zero_add,List.length_append,h6,h7] at r2
     rw [hm]; exact r2
    have hst:kstore H ⟨b,o*ti.size+n*ti.size,none⟩ new=some (H.put ⟨b,o*ti.size+n*ti.size,none⟩ new):=by
     unfold kstore
     simp only [h1,h5,cond_true,hrd]
    simp only [cond_true,hst,ob]
    have hne:∀ k e',H k=some e'->k≠b->(H.put ⟨b,o*ti.size+n*ti.size,none⟩ new) k=some e':=fun k e' q hk=>by
     simp only [KH.put]; rw [if_neg hk]; exact q
    refine ⟨_,_,_,rfl,?_,fun k e' q hk=>hne k e' q (fun x=>hk (by rw [x]; rfl)),fun b' q=>.inl q⟩
    refine .on b o _ ⟨wr e.cells (o*ti.size+n*ti.size) new,e.len,e.unk,none⟩ pre _ (ex.drop (m*ti.size)) (by simp only [KH.put,if_true,h1,Option.map_some]) h2 ?_ ?_ (wrB_keep h5) h6 (by simp [h7,hm,Nat.add_mul])
    .simp only [List.length_append,List.length_drop] at h3 ⊢
     omega
    .have hl2:(pre++(cs++new)++ex.drop (m*ti.size)).length=(pre++cs++ex).length:=by simp only [List.length_append,List.length_drop]; omega
     rw [hl2]
     have he:pre++cs++ex=pre++cs++ex.take (m*ti.size)++ex.drop (m*ti.size):=by rw [List.append_assoc (pre++cs),List.take_append_drop]
     have h4':rd e.cells 0 (pre++cs++ex).length=some (pre++cs++ex.take (m*ti.size)++ex.drop (m*ti.size)):=by rw [<- he]; exact h4
     rw [<- List.append_assoc pre]
     exact rdWr h4' (by rw [List.length_append,h6,h7]) (by simp only [List.length_take,hm]; omega)
   .rw [hlt0 _ _ (by omega)]
    simp only [cond_false,hrow,ob]
    refine ⟨_,_,_,rfl,mk (H.del b) h7,fun k e' q hne=>?_,fun b' q=>by cases q; exact .inr rfl⟩
    simp only [KH.new,KH.del]
    rw [if_neg (fun e1=>by subst e1; rw [hnm] at q; cases q),if_neg (fun e1=>hne (by rw [e1]; rfl))]
    exact q
theorem Gs.write {H:KH} {sz n c:Nat} {a:OA} {xs ys zs vs:List Value} (h:Gs H sz a n c (xs++ys++zs)) (hy:ys.length=vs.length) (h0:0<(xs++ys++zs).length):∃ b o,a=some ⟨b,o,none⟩/\ld H ⟨b,o+xs.length,none⟩ ys/\KH.may H b/\Gs (H.put ⟨b,o+xs.length,none⟩ vs) sz a n c (xs++vs++zs):=by
 generalize hcs:xs++ys++zs=cs at h h0
 cases h with
 | nil=>simp at h0
 | on b o _ e pre _ ex h1 h2 h3 h4 h5 h6 h7 =>
   subst hcs
   refine ⟨b,_,rfl,⟨rfl,e,h1,?_⟩,⟨e,h1,h5⟩,?_⟩
   .have r1:=rd_drop h4 (m:=(pre++xs).length) (by simp)
    have r2:=rd_take r1 (m:=ys.length) (by simp; omega)
    rw [show pre++(xs++ys++zs)++ex=(pre++xs)++(ys++(zs++ex)) by simp,List.drop_left,List.take_left,Nat.zero_add,List.length_append,h6] at r2
    exact r2
   .have e1:pre++(xs++ys++zs)++ex=(pre++xs)++ys++(zs++ex):=by simp
    have e2:pre++(xs++vs++zs)++ex=(pre++xs)++vs++(zs++ex):=by simp
    have hl:(pre++(xs++vs++zs)++ex).length=(pre++(xs++ys++zs)++ex).length:=by simp [hy]
    refine .on b o n ⟨wr e.cells (o*sz+xs.length) vs,e.len,e.unk,none⟩ pre _ ex (put_at h1) h2 (by rw [h3,hl]) ?_ (wrB_keep h5) h6 (by rw [<- h7]; simp [hy])
    rw [hl,e2]
    rw [e1] at h4 ⊢
    exact rdWr h4 (by rw [List.length_append,h6]) hy
structure Rr where
 sz:Nat
 a:OA
 n:Nat
 c:Nat
 cs:List Value
structure Rws (Z H:KH) (p:Nat) (R:List Rr):Prop where
 le:Le Z H
 zp:Z p=none
 ok:∀ r∈R,Gs H r.sz r.a r.n r.c r.cs
 fr:∀ r∈R,∀ k,blk r.a=some k->Z k=none/\k≠p
 dj:R.Pairwise fun r s=>∀ k,blk r.a=some k->blk s.a≠some k
theorem Rws.nil {Z H:KH} {p:Nat} (h:Le Z H) (hp:Z p=none):Rws Z H p []:=⟨h,hp,fun _ q=>(by cases q),fun _ q=>(by cases q),.nil⟩
theorem Rws.none_ {Z H:KH} {p sz:Nat} {R:List Rr} (h:Rws Z H p R):Rws Z H p (⟨sz,none,0,0,[]⟩ :: R):=⟨h.le,h.zp,fun r q=>by
 rcases List.mem_cons.1 q with rfl | q
 .exact .nil
 .exact h.ok r q,fun r q k z=>by
 rcases List.mem_cons.1 q with rfl | q
 .cases z
 .exact h.fr r q k z,.cons (fun _ _ k z=>by cases z) h.dj⟩
theorem Rws.perm {Z H:KH} {p:Nat} {R R':List Rr} (h:Rws Z H p R) (q:R.Perm R'):Rws Z H p R' :=
 ⟨h.le,h.zp,fun r z=>h.ok r (q.mem_iff.2 z),fun r z=>h.fr r (q.mem_iff.2 z),q.pairwise h.dj fun h k z w=>h k w z⟩
theorem Rws.tail {Z H:KH} {p:Nat} {r:Rr} {R:List Rr} (h:Rws Z H p (r :: R)):Rws Z H p R :=
 ⟨h.le,h.zp,fun r z=>h.ok r (List.mem_cons_of_mem _ z),fun r z=>h.fr r (List.mem_cons_of_mem _ z),(List.pairwise_cons.1 h.dj).2⟩
theorem Rws.head {Z H:KH} {p:Nat} {r:Rr} {R:List Rr} (h:Rws Z H p (r :: R)):Gs H r.sz r.a r.n r.c r.cs:=h.ok r (List.mem_cons_self ..)
theorem Rws.step {Z H H':KH} {p:Nat} {R:List Rr} (h:Rws Z H p R) (y:∀ k e,k≠p->H k=some e->H' k=some e):Rws Z H' p R :=
 ⟨fun k e q=>y k e (fun z=>by subst z; rw [h.zp] at q; cases q) (h.le k e q),h.zp,fun r z=>(h.ok r z).agree fun k e w q=>y k e (h.fr r z k w).2 q,h.fr,h.dj⟩
theorem Rws.base {Z Z' H:KH} {p:Nat} {R:List Rr} (h:Rws Z H p R) (hl:Le Z' H) (hp:Z' p=none) (hn:∀ r∈R,∀ k,blk r.a=some k->Z' k=none):Rws Z' H p R :=
 ⟨hl,hp,h.ok,fun r z k w=>⟨hn r z k w,(h.fr r z k w).2⟩,h.dj⟩
theorem Rws.app {Z H:KH} {p nm m:Nat} {r:Rr} {R:List Rr} {ti:TI} {new:List Value} (h:Rws Z H p (r :: R)) (hn:H nm=none) (hp:nm≠p) (hsz:r.sz=ti.size) (hm:new.length=m*ti.size) (hs:r.n+m<=1000000) (hb:ti.bytes<=1000000) (hz:1<=ti.size) (hro:ti.size<=1000000:=by decide) :
 ∃ a' c' H',kappend H nm ti r.a r.n r.c m new=some (.slice a' (r.n+m) c',H')/\Rws Z H' p (⟨r.sz,a',r.n+m,c',r.cs++new⟩ :: R)/\(∀ e,H p=some e->H' p=some e)/\(∀ k e,H k=some e->blk r.a≠some k->H' k=some e):=by
 have g:=h.head
 have hd:=List.pairwise_cons.1 h.dj
 rw [hsz] at g
 obtain ⟨a',c',H',f1,f2,f3,f4⟩:=g.appends (ti:=ti) (nm:=nm) (new:=new) (m:=m) hn hm hs hb hz hro
 have hfr:=h.fr r (List.mem_cons_self ..)
 refine ⟨a',c',H',f1,⟨fun k e q=>f3 k e (h.le k e q) (fun z=>by rw [(hfr k z).1] at q; cases q),h.zp,fun s q=>?_,fun s q k z=>?_,.cons (fun s q k z w=>?_) hd.2⟩,fun e q=>f3 p e q (fun z=>(hfr p z).2 rfl),f3⟩
 .rcases List.mem_cons.1 q with rfl | q
  .rw [hsz]; exact f2
  .exact (h.ok s (List.mem_cons_of_mem _ q)).agree fun k e z w=>f3 k e w fun u=>hd.1 s q k u z
 .rcases List.mem_cons.1 q with rfl | q
  .rcases f4 k z with w | w
   .exact hfr k w
   .rw [w]; exact ⟨h.le.none hn,hp⟩
  .exact h.fr s (List.mem_cons_of_mem _ q) k z
 .rcases f4 k z with u | u
  .exact hd.1 s q k u w
  .obtain ⟨e,v⟩:=(h.ok s (List.mem_cons_of_mem _ q)).has w
   rw [u,hn] at v; cases v
theorem Rws.write {Z H:KH} {p sz n c:Nat} {a:OA} {R:List Rr} {xs ys zs vs:List Value} (h:Rws Z H p (⟨sz,a,n,c,xs++ys++zs⟩ :: R)) (hy:ys.length=vs.length) (h0:0<(xs++ys++zs).length):∃ b o,a=some ⟨b,o,none⟩/\ld H ⟨b,o+xs.length,none⟩ ys/\KH.may H b/\Rws Z (H.put ⟨b,o+xs.length,none⟩ vs) p (⟨sz,a,n,c,xs++vs++zs⟩ :: R)/\b≠p/\Z b=none:=by
 obtain ⟨b,o,e,f1,f2,f3⟩:=h.head.write hy h0
 have e:a=some ⟨b,o,none⟩:=e
 have hd:=List.pairwise_cons.1 h.dj
 have hb:blk a=some b:=by rw [e]; rfl
 have hfr:=h.fr _ (List.mem_cons_self ..) b hb
 refine ⟨b,o,e,f1,f2,⟨le_put h.le hfr.1,h.zp,fun s q=>?_,fun s q k z=>?_,.cons (fun s q k z=>hd.1 s q k z) hd.2⟩,hfr.2,hfr.1⟩
 .rcases List.mem_cons.1 q with rfl | q
  .exact f3
  .exact (h.ok s (List.mem_cons_of_mem _ q)).agree fun k e z w=>put_ne (fun u=>hd.1 s q b hb (by rw [<- u]; exact z)) w
 .rcases List.mem_cons.1 q with rfl | q
  .exact h.fr _ (List.mem_cons_self ..) k z
  .exact h.fr s (List.mem_cons_of_mem _ q) k z
end Go.Ew
