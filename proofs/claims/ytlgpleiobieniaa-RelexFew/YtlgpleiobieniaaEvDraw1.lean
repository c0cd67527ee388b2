import Derived.Test.YtlgpleiobieniaaEvOps5
set_option linter.unusedVariables false
set_option linter.unusedSimpArgs false
namespace Go.Ev
open Go.Deep Go.RowKit
theorem memN_iff {i:Nat}:∀ {l:List Nat},memN i l=true↔i∈l
 | []=>by simp [memN]
 | j :: l=>by
   simp only [memN,Bool.or_eq_true,List.mem_cons,memN_iff (l:=l)]
   exact ⟨fun h=>h.imp Nat.eq_of_beq_eq_true id,fun h=>h.imp (fun e=>by rw [e]; simp) id⟩
theorem subN_mem {l m:List Nat} (h:subN l m=true) {i:Nat} (hi:i∈l):i∈m:=by
 unfold subN at h
 rw [List.all_eq_true] at h
 exact memN_iff.1 (h i hi)
theorem eqS0_eq {u v:Value} (h:eqS0 u v=true):u=v:=by
 unfold eqS0 at h
 split at h
 .rw [eq_of_beq h]
 .simp only [Bool.and_eq_true,decide_eq_true_eq] at h
  rw [h.1,h.2]
 .have:=of_decide_eq_true h
  rename_i a b
  congr 1
  cases a; cases b
  simp only at this
  congr 1
  exact Array.toList_inj.1 this
 .rfl
 .rw [of_decide_eq_true h]
 .simp only [Bool.and_eq_true] at h
  rw [Nat.eq_of_beq_eq_true h.1,Nat.eq_of_beq_eq_true h.2]
 .simp only [Bool.and_eq_true,decide_eq_true_eq] at h
  rw [h.1.1,Nat.eq_of_beq_eq_true h.1.2,Nat.eq_of_beq_eq_true h.2]
 .rfl
 .rfl
 .rfl
 .rw [Nat.eq_of_beq_eq_true h]
 .cases h
theorem eqL0_eq:∀ {u v:List Value},eqL0 u v=true->u=v
 | [],[],_=>rfl
 | a :: x,b :: y,h=>by
   simp only [eqL0,Bool.and_eq_true] at h
   rw [eqS0_eq h.1,eqL0_eq h.2]
 | [],_ :: _,h=>by simp [eqL0] at h
 | _ :: _,[],h=>by simp [eqL0] at h
theorem eqV0_eq {u v:Value} (h:eqV0 u v=true):u=v:=by
 unfold eqV0 at h
 split at h
 .rename_i a b
  congr 1
  exact Array.toList_inj.1 (eqL0_eq h)
 .exact eqS0_eq h
theorem eqLV0_eq:∀ {u v:List Value},eqLV0 u v=true->u=v
 | [],[],_=>rfl
 | a :: x,b :: y,h=>by
   simp only [eqLV0,Bool.and_eq_true] at h
   rw [eqV0_eq h.1,eqLV0_eq h.2]
 | [],_ :: _,h=>by simp [eqLV0] at h
 | _ :: _,[],h=>by simp [eqLV0] at h
theorem eqS_eq {u v:Value} (h:eqS u v=true):u=v:=by
 unfold eqS at h
 split at h
 .rename_i f a b g c d
  simp only [Bool.and_eq_true] at h
  have e1:f=g:=Nat.eq_of_beq_eq_true h.1.1
  rw [e1,Array.toList_inj.1 (eqLV0_eq h.1.2),Array.toList_inj.1 (eqLV0_eq h.2)]
 .exact eqS0_eq h
theorem eqL_eq:∀ {u v:List Value},eqL u v=true->u=v
 | [],[],_=>rfl
 | a :: x,b :: y,h=>by
   simp only [eqL,Bool.and_eq_true] at h
   rw [eqS_eq h.1,eqL_eq h.2]
 | [],_ :: _,h=>by simp [eqL] at h
 | _ :: _,[],h=>by simp [eqL] at h
theorem eqV_eq {u v:Value} (h:eqV u v=true):u=v:=by
 unfold eqV at h
 split at h
 .rename_i a b
  congr 1
  exact Array.toList_inj.1 (eqL_eq h)
 .exact eqS_eq h
theorem sil_same {E:Env} {call:Nat->List Value->Hp->Option (Value × Hp)} {nm:Nat} {o:Oper} {T:Tm} {h h':Hp} {v:Value} (hs:silB o.op=true) (hn:nm<h.nxt) (hx:xop E call nm o T h=some (v,h')):h'=h:=by
 have plain:∀ {v h'},xplain E o (opv T) h=some (v,h')->h'=h:=by
  intro v h' hp
  unfold xplain at hp
  split at hp
  .cases hp
  .rename_i vs _
   cases hq:allPlainA vs<;>simp only [hq,cond_true,cond_false,reduceCtorEq] at hp
   split at hp
   .rename_i u _
    cases hq2:isPlain u<;>simp [hq2] at hp
    exact hp.2.symm
   .cases hp
 unfold xop xopR at hx
 split at hx<;>rename_i ho<;>(try (rw [ho] at hs; simp [silB] at hs; done))
 .unfold xMove at hx
  obtain ⟨u,_,k⟩:=ob_some hx; cases k; rfl
 .unfold xMove at hx
  obtain ⟨u,_,k⟩:=ob_some hx; cases k; rfl
 .unfold xPick at hx
  split at hx
  .obtain ⟨u,_,k⟩:=ob_some hx; cases k; rfl
  .obtain ⟨u,_,k⟩:=ob_some hx; cases k; rfl
  .cases hx
 .unfold xBuild at hx
  obtain ⟨ti,_,k2⟩:=ob_some hx
  cases hk:Nat.beq ti.kind 3<;>simp only [hk,cond_true,cond_false] at k2
  .cases hk2:Nat.beq ti.kind 2<;>simp only [hk2,cond_true,cond_false,reduceCtorEq] at k2
   obtain ⟨_,_,k4⟩:=ob_some k2
   obtain ⟨_,_,k6⟩:=ob_some k4
   obtain ⟨_,_,k8⟩:=ob_some k6
   cases k8; rfl
  .obtain ⟨_,_,k6⟩:=ob_some k2
   obtain ⟨_,_,k8⟩:=ob_some k6
   cases k8; rfl
 .unfold xLoad at hx
  split at hx
  .obtain ⟨ti,_,k2⟩:=ob_some hx
   cases hk:ti.agg<;>simp only [hk,cond_true,cond_false] at k2
   .split at k2
    .cases k2; rfl
    .cases k2
   .obtain ⟨_,_,k8⟩:=ob_some k2
    cases k8; rfl
  .cases hx
 .unfold xNil at hx
  split at hx
  .cases hx; rfl
  .cases hx; rfl
  .cases hx
 .unfold xBin at hx
  split at hx
  .rename_i p q _ _
   split at hx
   .cases hx; rfl
   unfold xBinEq at hx
   cases hb:(plainA p&&plainA q)<;>simp only [hb,cond_true,cond_false] at hx
   .obtain ⟨ti,_,k2⟩:=ob_some hx
    cases hk:nilKind ti.kind p<;>simp only [hk,cond_true,cond_false,reduceCtorEq] at k2
    split at k2
    .obtain ⟨_,_,k8⟩:=ob_some k2; cases k8; rfl
    .obtain ⟨_,_,k8⟩:=ob_some k2; cases k8; rfl
    .cases k2
   .exact plain hx
  .cases hx
 .unfold xUn at hx
  split at hx
  .cases hx; rfl
  .exact plain hx
 .unfold xConv at hx
  split at hx
  .rename_i s hop
   obtain ⟨ti,k1,k2⟩:=ob_some hx
   cases hq:Nat.beq ti.kind 1<;>simp only [hq,cond_true,cond_false] at k2
   .exact plain k2
   .obtain ⟨ei,k3,k4⟩:=ob_some k2
    obtain ⟨si,k5,k6⟩:=ob_some k4
    cases hq2:(Nat.beq ei.kind 6&&Nat.beq ei.size 1)<;>simp only [hq2,cond_true,cond_false,reduceCtorEq] at k6
    unfold xStrB at k6
    cases hq3:(Nat.beq nm h.nxt&&Nat.ble s.size 1000000)<;>simp only [hq3,cond_true,cond_false,reduceCtorEq] at k6
    simp only [Bool.and_eq_true] at hq3
    have:=Nat.eq_of_beq_eq_true hq3.1
    omega
  .obtain ⟨ti,_,k2⟩:=ob_some hx
   obtain ⟨si,_,k4⟩:=ob_some k2
   obtain ⟨ei,_,k6⟩:=ob_some k4
   cases hq:(Nat.beq ti.kind 4&&Nat.beq si.kind 1&&Nat.beq ei.kind 6)<;>simp only [hq,cond_true,cond_false,reduceCtorEq] at k6
   obtain ⟨_,_,k8⟩:=ob_some k6
   obtain ⟨_,_,k9⟩:=ob_some k8
   cases k9; rfl
  .exact plain hx
  .cases hx
 .unfold xMkF at hx
  split at hx
  .rename_i g vs us h1 h2
   cases hq:(vs.all capOk&&us.all capOk)<;>simp only [hq,cond_true,cond_false,reduceCtorEq] at hx
   cases hx; rfl
  .cases hx
 .unfold xSlc at hx
  split at hx
  .obtain ⟨ti,_,k2⟩:=ob_some hx
   obtain ⟨ei,_,k4⟩:=ob_some k2
   cases hk:Nat.beq ti.kind 1<;>simp only [hk,cond_true,cond_false,reduceCtorEq] at k4
   split at k4
   .obtain ⟨_,_,k8⟩:=ob_some k4; cases k8; rfl
   .cases k4
  .exact plain hx
  .cases hx
 .unfold xField at hx
  split at hx
  .rename_i ad _
   obtain ⟨ti,_,k2⟩:=ob_some hx
   obtain ⟨fl,_,k4⟩:=ob_some k2
   cases hq:(Nat.beq ti.kind 3&&!(Nat.beq fl.2 0)&&ad.spot.isNone)<;>simp only [hq,cond_true,cond_false,reduceCtorEq] at k4
   cases k4; rfl
  .cases hx
 .unfold xIdx at hx
  split at hx
  .rename_i ad len _ _ i _ _
   obtain ⟨ti,_,k2⟩:=ob_some hx
   obtain ⟨ei,_,k4⟩:=ob_some k2
   cases hq:(Nat.beq ti.kind 1&&decide (0<=i)&&decide (i<len)&&ad.spot.isNone)<;>simp only [hq,cond_true,cond_false,reduceCtorEq] at k4
   cases k4; rfl
  .rename_i ad _ i _ _
   obtain ⟨ti,_,k2⟩:=ob_some hx
   obtain ⟨ei,_,k4⟩:=ob_some k2
   cases hq:(Nat.beq ti.kind 2&&decide (0<=i)&&decide (i<ti.alen)&&ad.spot.isNone)<;>simp only [hq,cond_true,cond_false,reduceCtorEq] at k4
   cases k4; rfl
  .cases hx
 .exact plain hx
 .unfold xExtract at hx
  split at hx
  .obtain ⟨_,_,k8⟩:=ob_some hx; cases k8; rfl
  .cases hx
 .have lm:∀ {mt es k ok},xLookM E h mt es k ok=some (v,h')->h'=h:=by
   intro mt es k ok hm
   unfold xLookM at hm
   cases hg:keyGood E.P es.isEmpty mt.alen k<;>simp only [hg,cond_true,cond_false,reduceCtorEq] at hm
   split at hm
   .rename_i u _
    cases hq:isTup u<;>simp only [hq,cond_true,cond_false,reduceCtorEq] at hm
    cases hm; rfl
   .split at hm
    .rename_i z _
     cases hq:plainA z<;>simp only [hq,cond_true,cond_false,reduceCtorEq] at hm
     cases hm; rfl
    .cases hm
   .cases hm
  unfold xLook at hx
  split at hx
  .obtain ⟨mt,_,k2⟩:=ob_some hx
   cases hq:Nat.beq mt.kind 10<;>simp only [hq,cond_true,cond_false,reduceCtorEq] at k2
   exact lm k2
  .obtain ⟨mt,_,k2⟩:=ob_some hx
   cases hq:Nat.beq mt.kind 10<;>simp only [hq,cond_true,cond_false,reduceCtorEq] at k2
   obtain ⟨es,_,k4⟩:=ob_some k2
   exact lm k4
  .cases hx
 .unfold xCall at hx
  rename_i c
  rw [ho] at hs
  simp only [silB] at hs
  split at hx
  .rename_i hc; rw [hc] at hs; simp at hs
  .rename_i b hc
   rw [hc] at hs
   simp only at hs
   unfold xCallB at hx
   split at hx
   .rename_i vs _
    split at hx
    .rename_i r hb
     have hx:=hb.trans hx
     clear hb
     unfold xbuiltin at hx
     split at hx
     .split at hx
      .obtain ⟨ti,_,k2⟩:=ob_some hx
       cases hk:Nat.beq ti.kind 1<;>simp only [hk,cond_true,cond_false,reduceCtorEq] at k2
       cases k2; rfl
      .cases hx
     .split at hx
      .obtain ⟨ti,_,k2⟩:=ob_some hx
       simp only [Bool.cond_eq_ite] at k2
       split at k2
       .cases k2; rfl
       .cases k2
      .cases hx
     .simp [plainB] at hs
     .simp [plainB] at hs
     .split at hx
      .obtain ⟨ti,_,k2⟩:=ob_some hx
       cases hk:Nat.beq ti.kind 4<;>simp only [hk,cond_true,cond_false,reduceCtorEq] at k2
       cases k2; rfl
      .cases hx
     .cases hx; rfl
     .cases hx; rfl
     .cases hx
    .cases hq:(allPlain vs&&plainB b)<;>simp only [hq,cond_true,cond_false,reduceCtorEq] at hx
     exact plain hx
   .cases hx
  .cases hx
 .cases hx
theorem all_any {E:Env} {call:Nat->List Value->Hp->Option (Value × Hp)} {nm:Nat} {o:Oper} {T:Tm} {h h':Hp} {v:Value} (hs:allB o.op=true) (hx:xop E call nm o T h=some (v,h')) :
 ∃ ent,h'=halloc h nm ent/\∀ H,xop E call nm o T H=some (v,halloc H nm ent):=by
 cases ho:o.op<;>rw [ho] at hs<;>simp only [allB,Bool.false_eq_true] at hs
 case alloc t =>
  simp only [xop,xopR,xAlloc,ho] at hx ⊢
  obtain ⟨ti,k1,k2⟩:=ob_some hx
  cases k2
  exact ⟨_,rfl,fun H=>by simp [k1,ob]⟩
 case box t x =>
  simp only [xop,xopR,xBox,ho] at hx ⊢
  obtain ⟨u,k1,k2⟩:=ob_some hx
  obtain ⟨cs,k3,k4⟩:=ob_some k2
  cases k4
  exact ⟨_,rfl,fun H=>by simp [k1,k3,ob]⟩
 case buildSlice t len parts =>
  simp only [xop,xopR,xBuildSlice,ho] at hx ⊢
  obtain ⟨ti,k1,k2⟩:=ob_some hx
  obtain ⟨ei,k3,k4⟩:=ob_some k2
  cases hq:(Nat.beq ti.kind 1&&Nat.ble (len*ei.size) 16777216&&Nat.ble len 16777216&&Nat.beq ei.zero.length ei.size)<;>simp only [hq,cond_true,cond_false,reduceCtorEq] at k4
  obtain ⟨ps,k5,k6⟩:=ob_some k4
  obtain ⟨cs,k7,k8⟩:=ob_some k6
  cases k8
  refine ⟨_,rfl,fun H=>?_⟩
  rw [k1]
  simp only [ob]
  rw [k3]
  simp only [hq,cond_true]
  rw [k5]
  simp only
  rw [k7]
 case makeSlice t l c =>
  simp only [xop,xopR,xMake,ho] at hx ⊢
  split at hx
  .rename_i k1 n k2 k hl hc
   obtain ⟨ti,j1,j2⟩:=ob_some hx
   obtain ⟨ei,j3,j4⟩:=ob_some j2
   cases hq:(Nat.beq ti.kind 1&&decide (0<=n)&&decide (n<=k)&&decide (k<=1000000)&&Nat.ble ei.bytes 1000000&&Nat.beq ei.zero.length ei.size)<;>simp only [hq,cond_true,cond_false,reduceCtorEq] at j4
   cases j4
   refine ⟨_,rfl,fun H=>?_⟩
   rw [j1]
   simp only [ob]
   rw [j3]
   simp only [hq,cond_true]
  .cases hx
structure Merge (θ θ':Th) (h1 hh hh' H':Hp):Prop where
 sub:∀ n e x,tget hh.m n=some e->θ n=some x->tget h1.m n=some e
 nxt:H'.nxt=hh'.nxt
 each:∀ n e x,tget H'.m n=some e->θ' n=some x->tget hh'.m n=some e\/(tget hh.m n=none/\tget h1.m n=some e/\θ n=some x)
theorem merge_HR [LG] {nm:Nat} {θ θ':Th} {h1 hh hh' H':Hp} {w w':World} (hr:HR θ h1 w) (m:Merge θ θ' h1 hh hh' H') (e:Ext nm θ hh w θ' hh' w') (hr':HR θ' hh' w'):HR θ' H' w':=by
 have kept:∀ n en x,tget hh.m n=none->tget h1.m n=some en->θ n=some x->w'.heap[x.1]? = w.heap[x.1]?:=by
  intro n en x h0 h2 h3
  refine e.frame x.1 (hr.ent n en x h2 h3).lt fun k ek y h4 _ h5 h6=>?_
  have hne:n≠k:=fun e1=>by subst e1; rw [h0] at h4; cases h4
  exact hr.sep n k en ek x y h2 (m.sub k ek y h4 h5) hne h3 h5 h6.symm
 refine ⟨fun n en x h2 h3=>?_,fun n k en ek x y h2 h3 hne h4 h5=>?_,fun n hn=>hr'.fresh n (by rw [<- m.nxt]; exact hn)⟩
 .rcases m.each n en x h2 h3 with h4 | ⟨h4,h5,h6⟩
  .exact hr'.ent n en x h4 h3
  .have r:=hr.ent n en x h5 h6
   have hk:=kept n en x h4 h5 h6
   refine ⟨h3,Nat.lt_of_lt_of_le r.lt e.size,fun i v hi=>?_,fun o ho=>(by rw [hk]; exact ObR_mono e.keep (r.ob o ho)),fun hu=>?_⟩
   .obtain ⟨⟨u,q1,q2⟩,q3⟩:=r.cell i v hi
    rw [World.cell?_of_block (w:=w) hk,World.frozen?_of_block (w:=w) hk]
    exact ⟨⟨u,q1,S_mono e.keep q2⟩,q3⟩
   .obtain ⟨q1,q2⟩:=r.room hu
    refine ⟨q1,fun i hi=>?_⟩
    rw [World.cell?_of_block (w:=w) hk,World.frozen?_of_block (w:=w) hk]
    exact q2 i hi
 .have cross:∀ n k en ek x y,tget hh.m n=none->tget h1.m n=some en->θ n=some x->tget hh'.m k=some ek->θ' k=some y->x.1≠y.1:=by
   intro n k en ek x y g1 g2 g3 g4 g5 g6
   rcases e.own k ek y g4 g5 with g7 | ⟨j,ej,z,g7,g8,g9⟩
   .have:=(hr.ent n en x g2 g3).lt
    omega
   .have hnj:n≠j:=fun e1=>by subst e1; rw [g1] at g7; cases g7
    exact hr.sep n j en ej x z g2 (m.sub j ej z g7 g8) hnj g3 g8 (g6.trans g9.symm)
  rcases m.each n en x h2 h4 with g | ⟨g1,g2,g3⟩<;>rcases m.each k ek y h3 h5 with f | ⟨f1,f2,f3⟩
  .exact hr'.sep n k en ek x y g f hne h4 h5
  .exact (cross k n ek en y x f1 f2 f3 g h4).symm
  .exact cross n k en ek x y g1 g2 g3 f h5
  .exact hr.sep n k en ek x y g2 f2 hne g3 f3
theorem merge_Ext {nm base:Nat} {θ0 θ θ':Th} {h0 h1 hh hh' H':Hp} {w0 w w':World} (b:Ext base θ0 h0 w0 θ h1 w) (m:Merge θ θ' h1 hh hh' H') (e:Ext nm θ hh w θ' hh' w') (hb:h0.nxt<=nm) (hn:h0.nxt<=hh.nxt) (hn':h0.nxt<=H'.nxt):Ext base θ0 h0 w0 θ' H' w' where
 keep n x q:=e.keep n x (b.keep n x q)
 only n q1 q2:=by rw [e.only n (by omega) (by omega),b.only n q1 q2]
 nxt:=hn'
 size:=Nat.le_trans b.size e.size
 tape:=e.tape.trans b.tape
 os:=e.os.trans b.os
 output:=e.output.trans b.output
 frame k hk hno:=by
  rw [e.frame k (Nat.lt_of_lt_of_le hk b.size) ?_,b.frame k hk hno]
  intro n en x q1 qu q2 q3
  rcases b.ownw n en x (m.sub n en x q1 q2) qu q2 with q4 | ⟨j,ej,y,q4,qj,q5,q6⟩
  .omega
  .exact hno j ej y q4 qj q5 (q6.trans q3)
 ownw n en x q1 qu q2:=by
  rcases m.each n en x q1 q2 with q3 | ⟨q3,q4,q5⟩
  .rcases e.ownw n en x q3 qu q2 with q6 | ⟨j,ej,y,q6,qj,q7,q8⟩
   .exact .inl (Nat.le_trans b.size q6)
   .rcases b.ownw j ej y (m.sub j ej y q6 q7) qj q7 with q9 | ⟨i,ei,z,q9,qi,q10,q11⟩
    .exact .inl (q8 ▸ q9)
    .exact .inr ⟨i,ei,z,q9,qi,q10,q11.trans q8⟩
  .exact b.ownw n en x q4 qu q5
 own n en x q1 q2:=by
  rcases m.each n en x q1 q2 with q3 | ⟨q3,q4,q5⟩
  .rcases e.own n en x q3 q2 with q6 | ⟨j,ej,y,q6,q7,q8⟩
   .exact .inl (Nat.le_trans b.size q6)
   .rcases b.own j ej y (m.sub j ej y q6 q7) q7 with q9 | ⟨i,ei,z,q9,q10,q11⟩
    .exact .inl (q8 ▸ q9)
    .exact .inr ⟨i,ei,z,q9,q10,q11.trans q8⟩
  .exact b.own n en x q4 q5
section
variable {ops : Array Oper} {A : List (List Nat)}
def Lst (listed:Array Bool) (i:Nat):Prop:=listed.getD i false=true
def Down (ops:Array Oper) (listed:Array Bool):Prop:=∀ i o,ops[i]? = some o->Lst listed i->∀ e∈o.after,Region.binds .any e=true->Lst listed e.on
theorem anc_down {listed:Array Bool} (hA:∀ i,i<ops.size->ancOk ops A i=true) (hd:Down ops listed) :
 ∀ (k i:Nat),i<k->i<ops.size->(∀ o,ops[i]? = some o->∀ e∈o.after,Region.binds .any e=true->Lst listed e.on)->∀ j,j∈ancOf A i->Lst listed j
 | 0,i,h,_,_,_,_=>by omega
 | k+1,i,h,hi,hdir,j,hj=>by
   have h1:=hA i hi
   unfold ancOk at h1
   have ho:ops[i]? = some ops[i]:=Array.getElem?_eq_getElem hi
   rw [ho] at h1
   simp only [Bool.and_eq_true] at h1
   obtain ⟨h2,h3⟩:=h1
   rw [List.all_eq_true] at h2 h3
   have h4:=h3 j hj
   rw [List.any_eq_true] at h4
   obtain ⟨e,he,h5⟩:=h4
   simp only [Bool.and_eq_true,Bool.or_eq_true] at h5
   have hem:e∈ops[i].after:=by simpa using he
   have hL:=hdir _ ho e hem h5.1
   rcases h5.2 with h6 | h6
   .rw [Nat.eq_of_beq_eq_true h6]; exact hL
   .have h7:=h2 e he
    rw [h5.1] at h7
    simp only [Bool.not_true,Bool.false_or] at h7
    unfold Nat.blt at h7
    have hlt:e.on<i:=Nat.le_of_ble_eq_true h7
    exact anc_down hA hd k e.on (by omega) (by omega) (fun o' ho' e' he' hb'=>hd e.on o' ho' hL e' he' hb') j (memN_iff.1 h6)
theorem lst_of_anc {listed:Array Bool} (hA:∀ i,i<ops.size->ancOk ops A i=true) (hd:Down ops listed) {i:Nat} (hi:i<ops.size) (hL:Lst listed i) {j:Nat} (hj:j∈ancOf A i):Lst listed j :=
 anc_down hA hd (i+1) i (by omega) hi (fun o ho e he hb=>hd i o ho hL e he hb) j hj
theorem mem_ready' {listed:Array Bool} (hs:listed.size=ops.size) {i:Nat} (h:i∈Region.ready .any ops listed) :
 i<ops.size/\¬ Lst listed i/\∀ o,ops[i]? = some o->∀ e∈o.after,Region.binds .any e=true->Lst listed e.on:=by
 unfold Region.ready at h
 rw [List.mem_filter] at h
 obtain ⟨h1,h2⟩:=h
 have hi:i<ops.size:=by simpa using h1
 simp only [Bool.and_eq_true,Bool.not_eq_true'] at h2
 have ho:ops[i]? = some ops[i]:=Array.getElem?_eq_getElem hi
 refine ⟨hi,?_,?_⟩
 .have h3:=h2.1
  unfold Lst
  have hl:i<listed.size:=by omega
  simp only [Array.getD_eq_getD_getElem?,Array.getElem?_eq_getElem hl,Option.getD_some] at h3 ⊢
  simp [h3]
 .intro o ho' e he hb
  have h3:=h2.2
  rw [ho'] at h3
  simp only [Option.map_some,Option.getD_some] at h3
  rw [Array.all_eq_true'] at h3
  have h4:=h3 e he
  rw [hb] at h4
  simpa [Lst] using h4
theorem all_done {listed:Array Bool} (hA:∀ i,i<ops.size->ancOk ops A i=true) (hs:listed.size=ops.size) (hr:Region.ready .any ops listed=[]):∀ (k i:Nat),i<k->i<ops.size->Lst listed i
 | 0,i,h,_=>by omega
 | k+1,i,h,hi=>by
   have ih:=all_done hA hs hr k
   have ho:ops[i]? = some ops[i]:=Array.getElem?_eq_getElem hi
   have hl:i<listed.size:=by omega
   unfold Lst
   cases hb:listed.getD i false with
   | true=>rfl
   | false =>
     exfalso
     have:i∈Region.ready .any ops listed:=by
      unfold Region.ready
      rw [List.mem_filter]
      refine ⟨by simpa using hi,?_⟩
      simp only [Bool.and_eq_true,Bool.not_eq_true']
      refine ⟨?_,?_⟩
      .simp only [Array.getD_eq_getD_getElem?,Array.getElem?_eq_getElem hl,Option.getD_some] at hb ⊢
       exact hb
      .rw [ho]
       simp only [Option.map_some,Option.getD_some]
       rw [Array.all_eq_true']
       intro e he
       cases hbe:Region.binds .any e with
       | false=>rfl
       | true =>
         simp only [Bool.not_true,Bool.false_or]
         have h1:=hA i hi
         unfold ancOk at h1
         rw [ho] at h1
         simp only [Bool.and_eq_true] at h1
         have h2:=h1.1
         rw [List.all_eq_true] at h2
         have h7:=h2 e (by simpa using he)
         rw [hbe] at h7
         simp only [Bool.not_true,Bool.false_or] at h7
         unfold Nat.blt at h7
         have hlt:e.on<i:=Nat.le_of_ble_eq_true h7
         exact ih e.on (by omega) (by omega)
     rw [hr] at this
     cases this
end
theorem writesAt_iff {ops:Array Oper} {j t:Nat}:writesAt ops j t=true↔∃ o,ops[j]? = some o/\o.dst=some t:=by
 unfold writesAt
 cases h:ops[j]? with
 | none=>simp
 | some o =>
   simp only [Option.some.injEq,exists_eq_left']
   cases hd:o.dst with
   | none=>simp
   | some d =>
     simp only [Option.some.injEq]
     exact ⟨Nat.eq_of_beq_eq_true,fun e=>by rw [e]; simp⟩
def noCall:Nat->List Value->Hp->Option (Value × Hp):=fun _ _ _=>none
theorem noCall_at [LG] (P:Program) (nm:Nat) (h:Hp):CallAt P noCall nm h:=fun _ _ _ _ hx=>by cases hx
theorem tputD_ne {T:Tm} {dst:Option Tmp} {v:Value} {t:Nat} (h:dst≠some t):tget (tputD T dst v) t=tget T t:=by
 cases dst with
 | none=>rfl
 | some d=>exact tget_tset_ne _ _ _ _ (fun e=>h (by rw [e]))
theorem tputD_same {T:Tm} {d:Nat} {v:Value}:tget (tputD T (some d) v) d=some v:=tget_tset_same _ _ _
theorem writes_false {ops:Array Oper} {i t:Nat} {o:Oper} (ho:ops[i]? = some o) (h:writesAt ops i t=false):o.dst≠some t:=fun e=>by
 have:=writesAt_iff.2 ⟨o,ho,e⟩
 rw [h] at this
 cases this
section
variable {E : Env} {ops : Array Oper} {A : List (List Nat)} {base : Nat}
structure PreR (E:Env) (ops:Array Oper) (base:Nat) (l:List Nat) (T:Tm) (h:Hp) (T1:Tm) (h1:Hp):Prop where
 keepT:∀ t,(∀ i∈l,writesAt ops i t=false)->tget T1 t=tget T t
 sub:∀ n e,tget h.m n=some e->tget h1.m n=some e
 new:∀ n e,tget h1.m n=some e->tget h.m n=none->∃ i∈l,n=base+i
 nxt:h1.nxt=h.nxt
theorem halloc_nxt {h:Hp} {nm:Nat} {e:Ent} (hn:nm<h.nxt):(halloc h nm e).nxt=h.nxt:=by simp only [halloc]; omega
theorem one_heap {i:Nat} {o:Oper} {T:Tm} {h h':Hp} {v:Value} (hk:silB o.op=true\/allB o.op=true) (hf:tget h.m (base+i)=none) (hn:base+i<h.nxt) (hx:xop E noCall (base+i) o T h=some (v,h')) :
 (∀ n e,tget h.m n=some e->tget h'.m n=some e)/\(∀ n e,tget h'.m n=some e->tget h.m n=none->n=base+i)/\h'.nxt=h.nxt:=by
 rcases hk with hk | hk
 .have:=sil_same hk hn hx
  subst this
  exact ⟨fun _ _ q=>q,fun n e q1 q2=>(by rw [q1] at q2; cases q2),rfl⟩
 .obtain ⟨ent,rfl,_⟩:=all_any hk hx
  refine ⟨fun n e q=>?_,fun n e q1 q2=>?_,halloc_nxt hn⟩
  .simp only [halloc]
   rw [tget_tset_ne _ _ _ _ (fun e1=>by subst e1; rw [hf] at q; cases q)]
   exact q
  .by_cases e1:base+i=n
   .exact e1.symm
   .simp only [halloc] at q1
    rw [tget_tset_ne _ _ _ _ e1,q2] at q1
    cases q1
theorem preOk_cons {prev:Option Nat} {D:List Nat} {i:Nat} {l:List Nat} (h:preOk ops A prev D (i :: l)=true) :
 (opAt? ops silB i=true\/opAt? ops allB i=true)/\i∉D/\behind A prev i=true/\lookOk ops A D i=true/\preOk ops A prev (i :: D) l=true:=by
 simp only [preOk,Bool.and_eq_true,Bool.or_eq_true,Bool.not_eq_true'] at h
 exact ⟨h.1.1.1.1,fun hm=>(by have:=memN_iff.2 hm; rw [h.1.1.1.2] at this; cases this),h.1.1.2,h.1.2,h.2⟩
theorem opAt_some {p:Op->Bool} {i:Nat} (h:opAt? ops p i=true):∃ o,ops[i]? = some o/\p o.op=true:=by
 unfold opAt? at h
 split at h
 .cases h
 .rename_i o ho; exact ⟨o,ho,h⟩
theorem lt_of_get {i:Nat} {o:Oper} (h:ops[i]? = some o):i<ops.size:=by
 rcases Nat.lt_or_ge i ops.size with g | g
 .exact g
 .rw [Array.getElem?_eq_none g] at h; cases h
theorem pre_R {prev:Option Nat}:∀ {l D:List Nat} {T T1:Tm} {h h1:Hp},preOk ops A prev D l=true->base+ops.size<=h.nxt->xpre E ops base l T h=some (T1,h1)->PreR E ops base l T h T1 h1
 | [],D,T,T1,h,h1,_,_,hx=>by
   cases hx
   exact ⟨fun _ _=>rfl,fun _ _ q=>q,fun n e q1 q2=>(by rw [q1] at q2; cases q2),rfl⟩
 | i :: l,D,T,T1,h,h1,hp,hn,hx=>by
   obtain ⟨hk,hi,_,_,hp'⟩:=preOk_cons hp
   simp only [xpre] at hx
   split at hx
   .rename_i o ho hf
    have hlt:=lt_of_get ho
    have hk':silB o.op=true\/allB o.op=true:=by
     rcases hk with hk | hk
     .obtain ⟨o',ho',q⟩:=opAt_some hk; rw [ho] at ho'; cases ho'; exact .inl q
     .obtain ⟨o',ho',q⟩:=opAt_some hk; rw [ho] at ho'; cases ho'; exact .inr q
    split at hx
    .split at hx
     .rename_i v h2 hop
      obtain ⟨g1,g2,g3⟩:=one_heap hk' hf (by omega) hop
      have ih:=pre_R hp' (by omega) hx
      refine ⟨fun t ht=>?_,fun n e q=>ih.sub n e (g1 n e q),fun n e q1 q2=>?_,by rw [ih.nxt,g3]⟩
      .rw [ih.keepT t (fun j hj=>ht j (by simp [hj])),tputD_ne (writes_false ho (ht i (by simp)))]
      .cases hc:tget h2.m n with
       | none=>obtain ⟨j,hj,e1⟩:=ih.new n e q1 hc; exact ⟨j,by simp [hj],e1⟩
       | some e'=>exact ⟨i,by simp,g2 n e' hc q2⟩
     .cases hx
    .have ih:=pre_R hp' hn hx
     refine ⟨fun t ht=>?_,ih.sub,fun n e q1 q2=>?_,ih.nxt⟩
     .rw [ih.keepT t (fun j hj=>ht j (by simp [hj])),tputD_ne (writes_false ho (ht i (by simp)))]
     .obtain ⟨j,hj,e1⟩:=ih.new n e q1 q2; exact ⟨j,by simp [hj],e1⟩
    .cases hx
   .cases hx
theorem pair_dst (hP:∀ i j,i<ops.size->j<ops.size->pairOk ops A i j=true) {i j t:Nat} (h1:writesAt ops i t=true) (h2:writesAt ops j t=true):i=j:=by
 obtain ⟨o,ho,hd⟩:=writesAt_iff.1 h1
 obtain ⟨o2,ho2,hd2⟩:=writesAt_iff.1 h2
 have hp:=hP i j (lt_of_get ho) (lt_of_get ho2)
 unfold pairOk at hp
 rw [ho] at hp
 simp only [Bool.or_eq_true,Bool.and_eq_true] at hp
 rcases hp with hp | hp
 .exact Nat.eq_of_beq_eq_true hp
 .have:=hp.2
  rw [hd] at this
  simp only [Bool.not_eq_true'] at this
  rw [h2] at this
  cases this
theorem pair_look (hP:∀ i j,i<ops.size->j<ops.size->pairOk ops A i j=true) {i j t:Nat} {o:Oper} (ho:ops[i]? = some o) (hne:i≠j) (ht:t∈o.looksAt ops) (h2:writesAt ops j t=true):j∈ancOf A i\/i∈ancOf A j:=by
 obtain ⟨o2,ho2,hd2⟩:=writesAt_iff.1 h2
 have hp:=hP i j (lt_of_get ho) (lt_of_get ho2)
 unfold pairOk at hp
 rw [ho] at hp
 simp only [Bool.or_eq_true,Bool.and_eq_true] at hp
 rcases hp with hp | hp
 .exact absurd (Nat.eq_of_beq_eq_true hp) hne
 .have:=hp.1
  rw [List.all_eq_true] at this
  have h3:=this t ht
  rw [h2] at h3
  simp only [Bool.not_true,Bool.false_or,Bool.or_eq_true] at h3
  exact h3.imp memN_iff.1 memN_iff.1
theorem lookOk_spec {D:List Nat} {i:Nat} {o:Oper} (ho:ops[i]? = some o) (h:lookOk ops A D i=true):(∀ j∈ancOf A i,j∈D)/\(∀ t∈o.looksAt ops,∀ j∈D,writesAt ops j t=true->j∈ancOf A i):=by
 unfold lookOk at h
 rw [ho] at h
 simp only [Bool.and_eq_true] at h
 refine ⟨fun j hj=>subN_mem h.1.1 hj,fun t ht j hj hw=>?_⟩
 have:=h.2
 rw [List.all_eq_true] at this
 have h2:=this t ht
 rw [List.all_eq_true] at h2
 have h3:=h2 j hj
 rw [hw] at h3
 simp only [Bool.not_true,Bool.false_or] at h3
 exact memN_iff.1 h3
theorem pre_T:∀ {l:List Nat} {T T1:Tm} {h h1:Hp},xpre E ops base l T h=some (T1,h1)->∀ t,(∀ i∈l,writesAt ops i t=false)->tget T1 t=tget T t
 | [],T,T1,h,h1,hx,t,_=>by cases hx; rfl
 | i :: l,T,T1,h,h1,hx,t,ht=>by
   simp only [xpre] at hx
   split at hx
   .rename_i o ho hf
    split at hx
    .split at hx
     .rw [pre_T hx t (fun j hj=>ht j (by simp [hj])),tputD_ne (writes_false ho (ht i (by simp)))]
     .cases hx
    .rw [pre_T hx t (fun j hj=>ht j (by simp [hj])),tputD_ne (writes_false ho (ht i (by simp)))]
    .cases hx
   .cases hx
theorem preOk_new {prev:Option Nat}:∀ {l D:List Nat},preOk ops A prev D l=true->∀ i∈l,i∉D
 | [],_,_,i,hi=>by cases hi
 | k :: l,D,h,i,hi=>by
   obtain ⟨_,h2,_,_,h5⟩:=preOk_cons h
   rcases List.mem_cons.1 hi with rfl | hi
   .exact h2
   .intro hm
    exact preOk_new h5 i hi (by simp [hm])
theorem stOk_cons {D:List Nat} {prev:Option Nat} {s:Stage} {l:List Stage} (h:stOk ops A D prev (s :: l)=true) :
 coverOk ops A prev D s.re=true/\reOk ops A D s.re=true/\preOk ops A prev D s.pre=true/\
 ((s.loud=none/\l=[]/\∀ i,i<ops.size->i∈s.pre.reverse++D)\/
  (∃ c o,s.loud=some c/\ops[c]? = some o/\(∀ i∈s.hide,i<ops.size)/\c∉s.pre.reverse++D/\behind A prev c=true/\lookOk ops A (s.pre.reverse++D) c=true/\
    (∀ i∈s.pre.reverse++D,opAt? ops allB i=true->i∈s.hide\/i∈ancOf A c)/\(∀ i,i<ops.size->i∈s.pre.reverse++D\/i=c\/c∈ancOf A i)/\stOk ops A (c :: (s.pre.reverse++D)) (some c) l=true)):=by
 simp only [stOk,Bool.and_eq_true] at h
 obtain ⟨⟨⟨h1,h2⟩,h3⟩,h4⟩:=h
 refine ⟨h1,h2,h3,?_⟩
 cases hl:s.loud with
 | none =>
   rw [hl] at h4
   simp only [Bool.and_eq_true,List.all_eq_true,List.isEmpty_iff] at h4
   exact .inl ⟨rfl,h4.2,fun i hi=>memN_iff.1 (h4.1 i (by simpa using hi))⟩
 | some c =>
   rw [hl] at h4
   simp only [Bool.and_eq_true,List.all_eq_true,Bool.or_eq_true,Bool.not_eq_true'] at h4
   obtain ⟨⟨⟨⟨⟨⟨⟨k1,k0⟩,k2⟩,k3⟩,k4⟩,k5⟩,k6⟩,k7⟩:=h4
   cases ho:ops[c]? with
   | none=>rw [ho] at k1; cases k1
   | some o =>
     refine .inr ⟨c,o,rfl,ho,fun i hi=>(by have:=k0 i hi; unfold Nat.blt at this; exact Nat.le_of_ble_eq_true this),fun hm=>(by have:=memN_iff.2 hm; rw [k2] at this; cases this),k3,k4,fun i hi ha=>?_,fun i hi=>?_,k7⟩
     .rcases k5 i hi with (q | q) | q
      .rw [ha] at q; cases q
      .exact .inl (memN_iff.1 q)
      .exact .inr (memN_iff.1 q)
     .rcases k6 i (by simpa using hi) with (q | q) | q
      .exact .inl (memN_iff.1 q)
      .exact .inr (.inl (Nat.eq_of_beq_eq_true q))
      .exact .inr (.inr (memN_iff.1 q))
theorem stages_T (hP:∀ i j,i<ops.size->j<ops.size->pairOk ops A i j=true) {call:Nat->List Value->Hp->Option (Value × Hp)} :
 ∀ {st:List Stage} {D:List Nat} {prev:Option Nat} {T Tf:Tm} {h hf:Hp},stOk ops A D prev st=true->xstages E call ops base st T h=some (Tf,hf)->∀ t j,j∈D->writesAt ops j t=true->tget Tf t=tget T t
 | [],D,prev,T,Tf,h,hf,hs,hx,t,j,hj,hw=>by simp [stOk] at hs
 | s :: l,D,prev,T,Tf,h,hf,hs,hx,t,j,hj,hw=>by
   obtain ⟨h1,h2,h3,h4⟩:=stOk_cons hs
   have hpre:∀ i∈s.pre,writesAt ops i t=false:=fun i hi=>by
    cases hq:writesAt ops i t with
    | false=>rfl
    | true =>
      have:=pair_dst hP hq hw
      subst this
      exact absurd hj (preOk_new h3 i hi)
   simp only [xstages] at hx
   cases hre:xre E ops base T h s.re<;>simp only [hre,cond_true,cond_false,reduceCtorEq] at hx
   split at hx
   .cases hx
   .rename_i T1 h1' hp
    have hT1:=pre_T hp t hpre
    rcases h4 with ⟨e1,e2,_⟩ | ⟨c,o,e1,ho,_,hc,_,_,_,_,hst⟩
    .rw [e1] at hx
     subst e2
     simp only at hx
     cases hx
     exact hT1
    .rw [e1] at hx
     simp only [ho] at hx
     have hcw:o.dst≠some t:=fun e=>by
      have hq:=writesAt_iff.2 ⟨o,ho,e⟩
      have:=pair_dst hP hq hw
      subst this
      exact hc (by simp [hj])
     have hjD:j∈c :: (s.pre.reverse++D):=by simp [hj]
     split at hx
     .split at hx
      .rw [stages_T hP hst hx t j hjD hw,tputD_ne hcw,hT1]
      .cases hx
     .rw [stages_T hP hst hx t j hjD hw,tputD_ne hcw,hT1]
     .cases hx
end
end Go.Ev
namespace Go.Ev
open Go.Deep Go.RowKit
structure Ctx where
 E:Env
 ops:Array Oper
 A:List (List Nat)
 base:Nat
 S:Nat
 T0:Tm
 Tf:Tm
 θ0:Th
 h0:Hp
 w0:World
 ds:List Deferred
 ro:Option Nat
structure Look (C:Ctx) (T:Tm) (i:Nat) (o:Oper):Prop where
 new:∀ t∈o.looksAt C.ops,∀ j∈ancOf C.A i,writesAt C.ops j t=true->tget T t=tget C.Tf t
 old:∀ t∈o.looksAt C.ops,(∀ j∈ancOf C.A i,writesAt C.ops j t=false)->tget T t=tget C.T0 t
structure Inv [LG] (C:Ctx) (D:List Nat) (prev:Option Nat) (h:Hp) (listed:Array Bool) (a:Act) (w:World) (θ:Th):Prop where
 size:listed.size=C.ops.size
 down:Down C.ops listed
 sub:∀ i,Lst listed i->i∈D
 last:∀ c,prev=some c->Lst listed c
 defers:a.defers=C.ds
 tsize:a.tmps.size=C.S
 old:∀ t v,tget C.T0 t=some v->(∀ j,Lst listed j->writesAt C.ops j t=false)->∃ u,a.tmps[t]? = some u/\W θ v u
 new:∀ t v j,Lst listed j->writesAt C.ops j t=true->tget C.Tf t=some v->∃ u,a.tmps[t]? = some u/\W θ v u
 heap:HR θ h w
 names:∀ j,j<C.ops.size->¬ Lst listed j->θ (C.base+j)=none
 nxt:C.base+C.ops.size<=h.nxt
 ext:Ext C.base C.θ0 C.h0 C.w0 θ h w
structure CtxOk (C:Ctx):Prop where
 tt:EnvT C.E
 anc:∀ i,i<C.ops.size->ancOk C.ops C.A i=true
 pair:∀ i j,i<C.ops.size->j<C.ops.size->pairOk C.ops C.A i j=true
 dst:∀ (i:Nat) (o:Oper) (d:Nat),C.ops[i]? = some o->o.dst=some d->d<C.S
 h0:C.h0.nxt=C.base
theorem HR.subheap [LG] {θ:Th} {h1 h:Hp} {w:World} (hr:HR θ h1 w) (hs:∀ n e,tget h.m n=some e->tget h1.m n=some e) (hn:h.nxt=h1.nxt):HR θ h w :=
 ⟨fun n e x h2 h3=>hr.ent n e x (hs n e h2) h3,fun n m e e' x y h2 h3 hne h4 h5=>hr.sep n m e e' x y (hs _ _ h2) (hs _ _ h3) hne h4 h5,fun n h2=>hr.fresh n (by omega)⟩
theorem lst_set {listed:Array Bool} {i j:Nat} (hi:i<listed.size):Lst (listed.setIfInBounds i true) j↔j=i\/Lst listed j:=by
 unfold Lst
 simp only [Array.getD_eq_getD_getElem?,Array.getElem?_setIfInBounds]
 by_cases h:i=j
 .subst h; simp [hi]
 .simp only [if_neg h]
  exact ⟨.inr,fun q=>q.resolve_left (fun e=>h e.symm)⟩
section
variable {C : Ctx} (hC : CtxOk C)
theorem look_val [LG] {D:List Nat} {prev:Option Nat} {h:Hp} {listed:Array Bool} {a:Act} {w:World} {θ:Th} (hC:CtxOk C) (inv:Inv C D prev h listed a w θ) {i:Nat} {o:Oper} {T:Tm} (ho:C.ops[i]? = some o) (hni:¬ Lst listed i) (hanc:∀ j∈ancOf C.A i,Lst listed j)
 (hl:Look C T i o) {t:Nat} {v:Value} (ht:t∈o.looksAt C.ops) (hv:tget T t=some v):∃ u,a.tmps[t]? = some u/\W θ v u:=by
 by_cases hex:∃ j∈ancOf C.A i,writesAt C.ops j t=true
 .obtain ⟨j,hj,hw⟩:=hex
  rw [hl.new t ht j hj hw] at hv
  exact inv.new t v j (hanc j hj) hw hv
 .have hall:∀ j∈ancOf C.A i,writesAt C.ops j t=false:=fun j hj=>by
   cases hq:writesAt C.ops j t with
   | false=>rfl
   | true=>exact absurd ⟨j,hj,hq⟩ hex
  rw [hl.old t ht hall] at hv
  refine inv.old t v hv fun j hL=>?_
  cases hq:writesAt C.ops j t with
  | false=>rfl
  | true =>
    exfalso
    have hne:i≠j:=fun e=>by subst e; exact hni hL
    rcases pair_look hC.pair ho hne ht hq with h1 | h1
    .exact hex ⟨j,h1,hq⟩
    .obtain ⟨oj,hoj,_⟩:=writesAt_iff.1 hq
     exact hni (lst_of_anc hC.anc inv.down (lt_of_get hoj) hL h1)
theorem look_TO [LG] {D:List Nat} {prev:Option Nat} {h:Hp} {listed:Array Bool} {a:Act} {w:World} {θ:Th} (hC:CtxOk C) (inv:Inv C D prev h listed a w θ) {i:Nat} {o:Oper} {T:Tm} (ho:C.ops[i]? = some o) (hni:¬ Lst listed i) (hanc:∀ j∈ancOf C.A i,Lst listed j)
 (hl:Look C T i o):TO θ T a o:=by
 intro x hx v hv
 have hnil:TR θ .nil a:=⟨fun t v q=>by cases q⟩
 cases x with
 | tmp t =>
   obtain ⟨u,h1,h2⟩:=look_val hC inv ho hni hanc hl (t:=t) (v:=v) (List.mem_append_left _ (List.mem_filterMap.2 ⟨.tmp t,hx,rfl⟩)) hv
   simpa [Act.eval,Array.getD_eq_getD_getElem?,h1] using h2
 | const c=>exact opv_W hnil (x:=.const c) hv
 | global g=>exact opv_W hnil (x:=.global g) hv
 | func f=>exact opv_W hnil (x:=.func f) hv
theorem look_guard [LG] {D:List Nat} {prev:Option Nat} {h:Hp} {listed:Array Bool} {a:Act} {w:World} {θ:Th} (hC:CtxOk C) (inv:Inv C D prev h listed a w θ) {i:Nat} {o:Oper} {T:Tm} (ho:C.ops[i]? = some o) (hni:¬ Lst listed i) (hanc:∀ j∈ancOf C.A i,Lst listed j)
 (hl:Look C T i o):∀ j want d v,o.guard=some (j,want)->(C.ops[j]?).bind (·.dst)=some d->tget T d=some v->∃ u,a.tmps[d]? = some u/\W θ v u:=by
 intro j want d v hg hd hv
 refine look_val hC inv ho hni hanc hl (List.mem_append_right _ ?_) hv
 rw [hg]
 simp [hd]
theorem inv_step [LG] {D D':List Nat} {prev prev':Option Nat} {h h':Hp} {listed:Array Bool} {a:Act} {w w':World} {θ θ':Th} {i:Nat} {o:Oper} {u v:Value} (hC:CtxOk C) (inv:Inv C D prev h listed a w θ) (hrdy:i∈Region.ready .any C.ops listed) (ho:C.ops[i]? = some o)
 (keep:∀ n x,θ n=some x->θ' n=some x) (hD:∀ j,j∈D->j∈D') (hiD:i∈D') (hprev:∀ c,prev'=some c->c=i\/prev=some c) (hTf:∀ d,o.dst=some d->tget C.Tf d=some v) (hw:W θ' v u) (hr:HR θ' h' w') (he:Ext C.base C.θ0 C.h0 C.w0 θ' h' w')
 (hnames:∀ j,j<C.ops.size->j≠i->θ (C.base+j)=none->θ' (C.base+j)=none) (hn:C.base+C.ops.size<=h'.nxt):Inv C D' prev' h' (listed.setIfInBounds i true) (a.put o.dst u) w' θ':=by
 obtain ⟨hi,hni,hdir⟩:=mem_ready' inv.size hrdy
 have hil:i<listed.size:=by rw [inv.size]; exact hi
 have hput:∀ t,o.dst≠some t->(a.put o.dst u).tmps[t]? = a.tmps[t]?:=by
  intro t ht
  cases hd:o.dst with
  | none=>rfl
  | some d =>
    have hne:d≠t:=fun e=>ht (by rw [hd,e])
    simp [Act.put,Array.getElem?_setIfInBounds,hne]
 refine ⟨by simp [inv.size],?_,?_,?_,?_,by rw [size_put]; exact inv.tsize,?_,?_,hr,?_,hn,he⟩
 .intro k ok hk hL e he' hb
  rw [lst_set hil] at hL ⊢
  rcases hL with rfl | hL
  .exact .inr (hdir ok hk e he' hb)
  .exact .inr (inv.down k ok hk hL e he' hb)
 .intro j hL
  rw [lst_set hil] at hL
  rcases hL with rfl | hL
  .exact hiD
  .exact hD j (inv.sub j hL)
 .intro c hc
  rw [lst_set hil]
  exact (hprev c hc).imp id (inv.last c)
 .rw [defers_put]; exact inv.defers
 .intro t x hx hno
  have h1:=hno i ((lst_set hil).2 (.inl rfl))
  rw [hput t (writes_false ho h1)]
  obtain ⟨y,q1,q2⟩:=inv.old t x hx fun j hL=>hno j ((lst_set hil).2 (.inr hL))
  exact ⟨y,q1,W_mono keep q2⟩
 .intro t x j hL hwr hx
  by_cases hd:o.dst=some t
  .have:=hTf t hd
   rw [this] at hx
   cases hx
   refine ⟨u,?_,hw⟩
   have hlt:t<a.tmps.size:=by rw [inv.tsize]; exact hC.dst i o t ho hd
   simp [Act.put,hd,hlt]
  .rw [hput t hd]
   have hji:j≠i:=fun e=>by
    subst e
    obtain ⟨o',ho',hd'⟩:=writesAt_iff.1 hwr
    rw [ho] at ho'
    cases ho'
    exact hd hd'
   rw [lst_set hil] at hL
   obtain ⟨y,q1,q2⟩:=inv.new t x j (hL.resolve_left hji) hwr hx
   exact ⟨y,q1,W_mono keep q2⟩
 .intro j hj hL
  rw [lst_set hil] at hL
  have hne:j≠i:=fun e=>hL (.inl e)
  exact hnames j hj hne (inv.names j hj (fun q=>hL (.inr q)))
def SFact (C:Ctx) (h1:Hp) (i:Nat):Prop:=∃ o T h b,C.ops[i]? = some o/\Look C T i o/\wantA C.ops o T=some b/\(b=false->∀ d,o.dst=some d->tget C.Tf d=some undefV)/\
 (b=true->∃ v h',xop C.E noCall (C.base+i) o T h=some (v,h')/\(∀ d,o.dst=some d->tget C.Tf d=some v)/\h.nxt=h1.nxt/\h'.nxt=h1.nxt/\(∀ n e,tget h.m n=some e->tget h1.m n=some e)/\
   (∀ n e,tget h1.m n=some e->tget h'.m n=some e\/(tget h.m n=none/\n≠C.base+i)))
theorem silent_step [LG] {D:List Nat} {prev:Option Nat} {h:Hp} {listed:Array Bool} {a:Act} {w:World} {θ:Th} {i:Nat} {K:Act->World->Prop} {Q:Exit->Act->World->Prop} (hC:CtxOk C) (inv:Inv C D prev h listed a w θ) (hrdy:i∈Region.ready .any C.ops listed) (hiD:i∈D) (hf:SFact C h i)
 (hK:∀ θ' a' w',Inv C D prev h (listed.setIfInBounds i true) a' w' θ'->K a' w'):wpOpIn (FW C.ro) 0 C.E.P C.ops Q i K a w:=by
 obtain ⟨hi,hni,hdir⟩:=mem_ready' inv.size hrdy
 obtain ⟨o,T,hh,b,ho,hl,hwant,hno,hyes⟩:=hf
 have hanc:∀ j∈ancOf C.A i,Lst listed j:=anc_down hC.anc inv.down (i+1) i (by omega) hi hdir
 have hwanted:=want_sound (look_guard hC inv ho hni hanc hl) hwant
 unfold wpOpIn
 rw [ho]
 simp only
 cases b with
 | false =>
   rw [if_neg (by rw [hwanted]; simp)]
   exact ⟨fun _ _=>fn_FW,hK θ _ w (inv_step hC inv hrdy ho (fun _ _ q=>q) (fun _ q=>q) hiD (fun c q=>.inr q) (hno rfl) undef_W inv.heap inv.ext (fun _ _ _ q=>q) inv.nxt)⟩
 | true =>
   rw [if_pos hwanted]
   obtain ⟨v,hh',hx,hTf,n1,n2,hs,hm⟩:=hyes rfl
   refine xop_sound hC.tt (inv.heap.subheap hs n1) (look_TO hC inv ho hni hanc hl) (noCall_at _ _ _) (inv.names i hi hni) hx C.ro _ _ ?_
   intro θ' w' u e r wv
   have hmg:Merge θ θ' h hh hh' h:=⟨fun n en x q _=>hs n en q,n2.symm,fun n en x q1 q2=>by
    rcases hm n en q1 with q3 | ⟨q3,q4⟩
    .exact .inl q3
    .refine .inr ⟨q3,q1,?_⟩
     have hlt:n<hh.nxt:=by
      rcases Nat.lt_or_ge n hh.nxt with g | g
      .exact g
      .have:=r.fresh n (by omega)
       rw [this] at q2; cases q2
     rw [<- e.only n hlt q4]; exact q2⟩
   refine hK θ' _ w' (inv_step hC inv hrdy ho e.keep (fun _ q=>q) hiD (fun c q=>.inr q) hTf wv (merge_HR inv.heap hmg e r) (merge_Ext inv.ext hmg e (by rw [hC.h0]; omega) (by rw [hC.h0,n1]; have:=inv.nxt; omega) (by rw [hC.h0]; have:=inv.nxt; omega)) ?_ inv.nxt)
   intro j hj hne hq
   rw [e.only _ (by rw [n1]; have:=inv.nxt; omega) (by omega)]
   exact hq
theorem hide_get {base:Nat}:∀ {l:List Nat} {m:BT (Option Ent)} {n:Nat},((∃ i∈l,n=base+i)->tget (hideAll base m l) n=none)/\((∀ i∈l,n≠base+i)->tget (hideAll base m l) n=tget m n)
 | [],m,n=>⟨fun ⟨i,hi,_⟩=>(by cases hi),fun _=>rfl⟩
 | k :: l,m,n=>by
   have ih:=@hide_get base l (tset m (base+k) none) n
   refine ⟨fun hex=>?_,fun hno=>?_⟩
   .by_cases hl:∃ i∈l,n=base+i
    .exact ih.1 hl
    .simp only [hideAll]
     rw [ih.2 (fun i hi e=>hl ⟨i,hi,e⟩)]
     obtain ⟨i,hi,e⟩:=hex
     rcases List.mem_cons.1 hi with rfl | hi
     .rw [e,tget_tset_same]
     .exact absurd ⟨i,hi,e⟩ hl
   .simp only [hideAll]
    rw [ih.2 (fun i hi=>hno i (by simp [hi])),tget_tset_ne _ _ _ _ (Ne.symm (hno k (by simp)))]
theorem back_get {base:Nat} {m0:BT (Option Ent)}:∀ {l:List Nat} {m:BT (Option Ent)} {n:Nat},((∃ i∈l,n=base+i)->tget (backAll base m0 m l) n=tget m0 n)/\((∀ i∈l,n≠base+i)->tget (backAll base m0 m l) n=tget m n)
 | [],m,n=>⟨fun ⟨i,hi,_⟩=>(by cases hi),fun _=>rfl⟩
 | k :: l,m,n=>by
   have ih:=@back_get base m0 l (tset m (base+k) (tget m0 (base+k))) n
   refine ⟨fun hex=>?_,fun hno=>?_⟩
   .by_cases hl:∃ i∈l,n=base+i
    .exact ih.1 hl
    .simp only [backAll]
     rw [ih.2 (fun i hi e=>hl ⟨i,hi,e⟩)]
     obtain ⟨i,hi,e⟩:=hex
     rcases List.mem_cons.1 hi with rfl | hi
     .rw [e,tget_tset_same]
     .exact absurd ⟨i,hi,e⟩ hl
   .simp only [backAll]
    rw [ih.2 (fun i hi=>hno i (by simp [hi])),tget_tset_ne _ _ _ _ (Ne.symm (hno k (by simp)))]
theorem loud_step [LG] {D:List Nat} {prev:Option Nat} {h h2:Hp} {listed:Array Bool} {a:Act} {w:World} {θ:Th} {c:Nat} {o:Oper} {T:Tm} {v:Value} {hide:List Nat} {call:Nat->List Value->Hp->Option (Value × Hp)} {K:Act->World->Prop} {Q:Exit->Act->World->Prop} (hC:CtxOk C) (hcall:∀ h,CallAt C.E.P call h.nxt h)
 (inv:Inv C D prev h listed a w θ) (hrdy:c∈Region.ready .any C.ops listed) (ho:C.ops[c]? = some o) (hl:Look C T c o) (hhide:∀ i∈hide,i<C.ops.size) (hwant:wantA C.ops o T=some true) (hx:xop C.E call h.nxt o T ⟨hideAll C.base h.m hide,h.nxt⟩=some (v,h2)) (hTf:∀ d,o.dst=some d->tget C.Tf d=some v)
 (hK:∀ θ' a' w',h.nxt<=h2.nxt->Inv C (c :: D) (some c) ⟨backAll C.base h.m h2.m hide,h2.nxt⟩ (listed.setIfInBounds c true) a' w' θ'->K a' w'):wpOpIn (FW C.ro) 0 C.E.P C.ops Q c K a w:=by
 obtain ⟨hi,hni,hdir⟩:=mem_ready' inv.size hrdy
 have hanc:∀ j∈ancOf C.A c,Lst listed j:=anc_down hC.anc inv.down (c+1) c (by omega) hi hdir
 have hwanted:=want_sound (look_guard hC inv ho hni hanc hl) hwant
 unfold wpOpIn
 rw [ho]
 simp only
 rw [if_pos hwanted]
 have hsub:∀ n e,tget (hideAll C.base h.m hide) n=some e->tget h.m n=some e:=by
  intro n e q
  by_cases hl':∃ i∈hide,n=C.base+i
  .rw [hide_get.1 hl'] at q; cases q
  .rw [hide_get.2 (fun i hi e=>hl' ⟨i,hi,e⟩)] at q; exact q
 have hcc:CallAt C.E.P call h.nxt ⟨hideAll C.base h.m hide,h.nxt⟩:=hcall ⟨hideAll C.base h.m hide,h.nxt⟩
 refine xop_sound (nm:=h.nxt) hC.tt (inv.heap.subheap (h:=⟨hideAll C.base h.m hide,h.nxt⟩) hsub rfl) (look_TO hC inv ho hni hanc hl) hcc (inv.heap.fresh _ (Nat.le_refl _)) hx C.ro _ _ ?_
 intro θ' w' u e r wv
 have hnn:h.nxt<=h2.nxt:=e.nxt
 have hmg:Merge θ θ' h ⟨hideAll C.base h.m hide,h.nxt⟩ h2 ⟨backAll C.base h.m h2.m hide,h2.nxt⟩:=by
  refine ⟨fun n en x q _=>hsub n en q,rfl,fun n en x q1 q2=>?_⟩
  simp only at q1
  by_cases hl':∃ i∈hide,n=C.base+i
  .rw [back_get.1 hl'] at q1
   refine .inr ⟨hide_get.1 hl',q1,?_⟩
   obtain ⟨i,hi',en'⟩:=hl'
   rcases Nat.lt_or_ge n h.nxt with g | g
   .rw [<- e.only n g (by omega)]; exact q2
   .exfalso
    have h1:=hhide i hi'
    have h2:=inv.nxt
    omega
  .rw [back_get.2 (fun i hi e=>hl' ⟨i,hi,e⟩)] at q1
   exact .inl q1
 refine hK θ' _ w' hnn (inv_step hC inv hrdy ho e.keep (fun j q=>by simp [q]) (by simp) (fun c' q=>.inl (Option.some.inj q).symm) hTf wv (merge_HR inv.heap hmg e r) (merge_Ext inv.ext hmg e (by rw [hC.h0]; have:=inv.nxt; omega) (by rw [hC.h0]; show C.base<=h.nxt; have:=inv.nxt; omega) (by rw [hC.h0]; show C.base<=h2.nxt; have:=inv.nxt; omega)) ?_ (by show _<=h2.nxt; have:=inv.nxt; omega))
 intro j hj hne hq
 rw [e.only _ (by show _<h.nxt; have:=inv.nxt; omega) (by have:=inv.nxt; omega)]
 exact hq
end
end Go.Ev
namespace Go.Ev
open Go.Deep Go.RowKit
def cntF (listed:Array Bool):Nat->Nat
 | 0=>0
 | k+1=>cntF listed k+(bif listed.getD k false then 0 else 1)
theorem cnt_set {listed:Array Bool} {i:Nat} (hi:i<listed.size) (hn:¬ Lst listed i):∀ k,(i<k->cntF (listed.setIfInBounds i true) k+1=cntF listed k)/\(k<=i->cntF (listed.setIfInBounds i true) k=cntF listed k)
 | 0=>⟨fun h=>by omega,fun _=>rfl⟩
 | k+1=>by
   obtain ⟨h1,h2⟩:=cnt_set hi hn k
   have hne:∀ j,j≠i->(listed.setIfInBounds i true).getD j false=listed.getD j false:=by
    intro j hj
    simp [Array.getD_eq_getD_getElem?,Array.getElem?_setIfInBounds,Ne.symm hj]
   refine ⟨fun h=>?_,fun h=>?_⟩
   .simp only [cntF]
    by_cases e:k=i
    .subst e
     have e1:(listed.setIfInBounds k true).getD k false=true:=(lst_set (j:=k) hi).2 (.inl rfl)
     have e2:listed.getD k false=false:=by
      cases hq:listed.getD k false with
      | false=>rfl
      | true=>exact absurd hq hn
     rw [e1,e2,h2 (Nat.le_refl _)]
     rfl
    .rw [hne k e]
     have:=h1 (by omega)
     omega
   .simp only [cntF]
    rw [hne k (by omega),h2 (by omega)]
theorem cnt_zero {listed:Array Bool}:∀ {k:Nat},cntF listed k=0->∀ i,i<k->Lst listed i
 | 0,_,i,h=>by omega
 | k+1,hz,i,h=>by
   simp only [cntF] at hz
   by_cases e:i=k
   .subst e
    unfold Lst
    cases hq:listed.getD i false with
    | true=>rfl
    | false=>rw [hq] at hz; simp at hz
   .exact cnt_zero (k:=k) (by omega) i (by omega)
def AFact (C:Ctx) (h:Hp) (i:Nat):Prop:=∃ o T b,C.ops[i]? = some o/\allB o.op=true/\Look C T i o/\wantA C.ops o T=some b/\(b=false->∀ d,o.dst=some d->tget C.Tf d=some undefV)/\
 (b=true->∃ v ent,(∀ H,xop C.E noCall (C.base+i) o T H=some (v,halloc H (C.base+i) ent))/\(∀ d,o.dst=some d->tget C.Tf d=some v)/\tget h.m (C.base+i)=some ent)
theorem AFact.sfact {C:Ctx} {h:Hp} {i:Nat} (hn:C.base+i<h.nxt) (hf:AFact C h i):SFact C h i:=by
 obtain ⟨o,T,b,ho,ha,hl,hw,hno,hyes⟩:=hf
 refine ⟨o,T,⟨tset h.m (C.base+i) none,h.nxt⟩,b,ho,hl,hw,hno,fun hb=>?_⟩
 obtain ⟨v,ent,h1,h2,h3⟩:=hyes hb
 refine ⟨v,_,h1 _,h2,rfl,halloc_nxt hn,fun n e q=>?_,fun n e q=>?_⟩
 .simp only [tget_tset] at q
  split at q
  .cases q
  .exact q
 .refine .inl ?_
  simp only [halloc,tget_tset]
  by_cases e1:C.base+i=n
  .rw [if_pos e1]
   rw [<- e1,h3] at q
   exact q
  .rw [if_neg e1,if_neg e1]
   exact q
theorem AFact.mono {C:Ctx} {h h1:Hp} {i:Nat} (hs:∀ e,tget h.m (C.base+i)=some e->tget h1.m (C.base+i)=some e) (hf:AFact C h i):AFact C h1 i:=by
 obtain ⟨o,T,b,ho,ha,hl,hw,hno,hyes⟩:=hf
 refine ⟨o,T,b,ho,ha,hl,hw,hno,fun hb=>?_⟩
 obtain ⟨v,ent,k1,k2,k3⟩:=hyes hb
 exact ⟨v,ent,k1,k2,hs _ k3⟩
def CT (C:Ctx) (D:List Nat) (T:Tm):Prop:=∀ t,(∀ j∈D,writesAt C.ops j t=false)->tget T t=tget C.T0 t
theorem CT.cons {C:Ctx} {D:List Nat} {T:Tm} (h:CT C D T) {i:Nat} {o:Oper} (ho:C.ops[i]? = some o) (v:Value):CT C (i :: D) (tputD T o.dst v):=fun t ht=>by
 rw [tputD_ne (writes_false ho (ht i (by simp)))]
 exact h t fun j hj=>ht j (by simp [hj])
theorem pre_facts {C:Ctx} (hC:CtxOk C) {prev:Option Nat}:∀ {l D:List Nat} {T T1:Tm} {h h1:Hp},preOk C.ops C.A prev D l=true->C.base+C.ops.size<=h.nxt->xpre C.E C.ops C.base l T h=some (T1,h1)->CT C D T->(∀ t j,(j∈l\/j∈D)->writesAt C.ops j t=true->tget C.Tf t=tget T1 t)->
 CT C (l.reverse++D) T1/\(∀ i∈l,∀ j∈ancOf C.A i,j∈l\/j∈D)/\∀ i∈l,SFact C h1 i/\(opAt? C.ops allB i=true->AFact C h1 i)
 | [],D,T,T1,h,h1,hp,hn,hx,ct,hs=>by
   cases hx
   exact ⟨by simpa using ct,fun i hi=>(by cases hi),fun i hi=>(by cases hi)⟩
 | i :: l,D,T,T1,h,h1,hp,hn,hx,ct,hs=>by
   have hp0:=hp
   obtain ⟨hk,hiD,_,hlk,hp'⟩:=preOk_cons hp
   have hnew:=preOk_new hp'
   have hx0:=hx
   simp only [xpre] at hx
   split at hx
   .rename_i o ho hf
    have hlt:=lt_of_get ho
    obtain ⟨lk1,lk2⟩:=lookOk_spec ho hlk
    have hk':silB o.op=true\/allB o.op=true:=by
     rcases hk with hk | hk
     .obtain ⟨o',ho',q⟩:=opAt_some hk; rw [ho] at ho'; cases ho'; exact .inl q
     .obtain ⟨o',ho',q⟩:=opAt_some hk; rw [ho] at ho'; cases ho'; exact .inr q
    have hs':∀ t j,(j∈l\/j∈i :: D)->writesAt C.ops j t=true->tget C.Tf t=tget T1 t:=fun t j hj=>hs t j (by
     rcases hj with q | q
     .exact .inl (by simp [q])
     .rcases List.mem_cons.1 q with rfl | q
      .exact .inl (by simp)
      .exact .inr q)
    have hlook:Look C T i o:=by
     refine ⟨fun t ht j hj hw=>?_,fun t ht hno=>ct t fun j hj=>?_⟩
     .have hjD:=lk1 j hj
      rw [hs t j (.inr hjD) hw]
      refine (pre_T hx0 t fun k hkm=>?_).symm
      cases hq:writesAt C.ops k t with
      | false=>rfl
      | true =>
        have e:=pair_dst hC.pair hq hw
        subst e
        rcases List.mem_cons.1 hkm with rfl | hkm
        .exact absurd hjD hiD
        .exact absurd (by simp [hjD]) (hnew k hkm)
     .cases hq:writesAt C.ops j t with
      | false=>rfl
      | true=>rw [hno j (lk2 t ht j hj hq)] at hq; cases hq
    have hdst:∀ (T':Tm) (h':Hp) (v:Value),xpre C.E C.ops C.base l T' h'=some (T1,h1)->T'=tputD T o.dst v->∀ d,o.dst=some d->tget C.Tf d=some v:=by
     intro T' h' v hq he d hd
     have hw:writesAt C.ops i d=true:=writesAt_iff.2 ⟨o,ho,hd⟩
     rw [hs d i (.inl (by simp)) hw,pre_T hq d fun k hkm=>?_,he,hd,tputD_same]
     cases hq2:writesAt C.ops k d with
     | false=>rfl
     | true =>
       have e:=pair_dst hC.pair hq2 hw
       subst e
       exact absurd (by simp) (hnew k hkm)
    have fin:∀ {P:Prop},(CT C (l.reverse++i :: D) T1/\(∀ k∈l,∀ j∈ancOf C.A k,j∈l\/j∈i :: D)/\∀ k∈l,SFact C h1 k/\(opAt? C.ops allB k=true->AFact C h1 k))->SFact C h1 i/\(opAt? C.ops allB i=true->AFact C h1 i)->
     CT C ((i :: l).reverse++D) T1/\(∀ k∈i :: l,∀ j∈ancOf C.A k,j∈i :: l\/j∈D)/\∀ k∈i :: l,SFact C h1 k/\(opAt? C.ops allB k=true->AFact C h1 k):=by
     intro _ hih hi
     refine ⟨by simpa [List.append_assoc] using hih.1,fun k hkm j hj=>?_,fun k hkm=>?_⟩
     .rcases List.mem_cons.1 hkm with rfl | hkm
      .exact .inr (lk1 j hj)
      .rcases hih.2.1 k hkm j hj with q | q
       .exact .inl (by simp [q])
       .rcases List.mem_cons.1 q with rfl | q
        .exact .inl (by simp)
        .exact .inr q
     .rcases List.mem_cons.1 hkm with rfl | hkm
      .exact hi
      .exact hih.2.2 k hkm
    split at hx
    .rename_i hw
     split at hx
     .rename_i v h2 hop
      obtain ⟨g1,g2,g3⟩:=one_heap (E:=C.E) hk' hf (by omega) hop
      have hR:=pre_R (E:=C.E) hp' (by omega) hx
      have ih:=pre_facts hC hp' (by omega) hx (ct.cons ho v) hs'
      have hTf:=hdst _ _ v hx rfl
      refine fin (P:=True) ih ⟨⟨o,T,h,true,ho,hlook,hw,fun e=>(by cases e),fun _=>⟨v,h2,hop,hTf,by rw [hR.nxt,g3],by rw [hR.nxt],fun n e q=>hR.sub n e (g1 n e q),fun n e q=>?_⟩⟩,fun ha=>?_⟩
      .cases hc:tget h2.m n with
       | some e' =>
         have:=hR.sub n e' hc
         rw [q] at this
         exact .inl this.symm
       | none =>
         obtain ⟨k,hkm,e1⟩:=hR.new n e q hc
         refine .inr ⟨?_,fun e2=>?_⟩
         .cases hc2:tget h.m n with
          | none=>rfl
          | some e'=>rw [g1 n e' hc2] at hc; cases hc
         .have:k=i:=by omega
          subst this
          exact absurd (by simp) (hnew k hkm)
      .obtain ⟨o',ho',ha'⟩:=opAt_some ha
       rw [ho] at ho'
       cases ho'
       obtain ⟨ent,e1,e2⟩:=all_any ha' hop
       refine ⟨o,T,true,ho,ha',hlook,hw,fun e=>(by cases e),fun _=>⟨v,ent,e2,hTf,hR.sub _ _ ?_⟩⟩
       rw [e1]
       simp only [halloc,tget_tset_same]
     .cases hx
    .rename_i hw
     have hR:=pre_R (E:=C.E) hp' hn hx
     have ih:=pre_facts hC hp' hn hx (ct.cons ho undefV) hs'
     have hTf:=hdst _ _ undefV hx rfl
     refine fin (P:=True) ih ⟨⟨o,T,h,false,ho,hlook,hw,fun _=>hTf,fun e=>by cases e⟩,fun ha=>?_⟩
     obtain ⟨o',ho',ha'⟩:=opAt_some ha
     rw [ho] at ho'
     cases ho'
     exact ⟨o,T,false,ho,ha',hlook,hw,fun _=>hTf,fun e=>by cases e⟩
    .cases hx
   .cases hx
theorem reOk_spec {C:Ctx} {D re:List Nat} (h:reOk C.ops C.A D re=true) {i:Nat} (hi:i∈re):∃ o,C.ops[i]? = some o/\silB o.op=true/\i∈D/\∀ t∈o.looksAt C.ops,∀ j∈D,writesAt C.ops j t=true->j∈ancOf C.A i:=by
 unfold reOk at h
 rw [List.all_eq_true] at h
 have h1:=h i hi
 simp only [Bool.and_eq_true] at h1
 obtain ⟨⟨h2,h3⟩,h4⟩:=h1
 obtain ⟨o,ho,hs⟩:=opAt_some h2
 rw [ho] at h4
 simp only [List.all_eq_true,Bool.or_eq_true,Bool.not_eq_true'] at h4
 refine ⟨o,ho,hs,memN_iff.1 h3,fun t ht j hj hw=>?_⟩
 rcases h4 t ht j hj with q | q
 .rw [hw] at q; cases q
 .exact memN_iff.1 q
theorem re_facts {C:Ctx} (hC:CtxOk C) {D pre:List Nat} {T T1:Tm} {h h1:Hp} (hn:C.base+C.ops.size<=h.nxt) (hR:PreR C.E C.ops C.base pre T h T1 h1) (hpre:∀ k∈pre,k∉D) (ct:CT C D T) (hanc:∀ i∈D,∀ j∈ancOf C.A i,j∈D) (hs:∀ t j,j∈D->writesAt C.ops j t=true->tget C.Tf t=tget T t) :
 ∀ {re:List Nat},reOk C.ops C.A D re=true->xre C.E C.ops C.base T h re=true->∀ i∈re,SFact C h1 i
 | [],_,_,i,hi=>by cases hi
 | k :: re,hok,hx,i,hi=>by
   have hok':reOk C.ops C.A D re=true:=by
    unfold reOk at hok ⊢
    simp only [List.all_cons,Bool.and_eq_true] at hok
    exact hok.2
   have hx0:=hx
   simp only [xre] at hx
   obtain ⟨o,ho,hsil,hkD,hlk⟩:=reOk_spec hok (i:=k) (by simp)
   rw [ho] at hx
   simp only at hx
   have hlook:Look C T k o:=by
    refine ⟨fun t ht j hj hw=>(hs t j (hanc k hkD j hj) hw).symm,fun t ht hno=>ct t fun j hj=>?_⟩
    cases hq:writesAt C.ops j t with
    | false=>rfl
    | true=>rw [hno j (hlk t ht j hj hq)] at hq; cases hq
   have hTd:∀ d,o.dst=some d->tget C.Tf d=tget T d:=fun d hd=>hs d k hkD (writesAt_iff.2 ⟨o,ho,hd⟩)
   have heap:∀ n e,tget h1.m n=some e->tget h.m n=some e\/(tget h.m n=none/\n≠C.base+k):=by
    intro n e q
    cases hc:tget h.m n with
    | some e' =>
      have:=hR.sub n e' hc
      rw [q] at this
      exact .inl this.symm
    | none =>
      obtain ⟨j,hj,e1⟩:=hR.new n e q hc
      refine .inr ⟨rfl,fun e2=>?_⟩
      have:j=k:=by omega
      subst this
      exact hpre j hj hkD
   split at hx
   .rename_i hw
    split at hx
    .rename_i v h2 d hop hd
     split at hx
     .rename_i u hu
      simp only [Bool.and_eq_true] at hx
      rcases List.mem_cons.1 hi with rfl | hi
      .have e1:=eqV_eq hx.1
       have e2:=sil_same hsil (Nat.lt_of_lt_of_le (Nat.add_lt_add_left (lt_of_get ho) _) hn) hop
       subst e2
       refine ⟨o,T,h2,true,ho,hlook,hw,fun e=>(by cases e),fun _=>⟨v,h2,hop,fun d' hd'=>?_,hR.nxt.symm,hR.nxt.symm,hR.sub,heap⟩⟩
       rw [hTd d' hd']
       rw [hd] at hd'
       cases hd'
       rw [hu,e1]
      .exact re_facts hC hn hR hpre ct hanc hs hok' hx.2 i hi
     .cases hx
    .rename_i x hop hd
     rcases List.mem_cons.1 hi with rfl | hi
     .obtain ⟨v,h2⟩:=x
      have e2:=sil_same hsil (Nat.lt_of_lt_of_le (Nat.add_lt_add_left (lt_of_get ho) _) hn) hop
      subst e2
      exact ⟨o,T,h2,true,ho,hlook,hw,fun e=>(by cases e),fun _=>⟨v,h2,hop,fun d' hd'=>(by rw [hd] at hd'; cases hd'),hR.nxt.symm,hR.nxt.symm,hR.sub,heap⟩⟩
     .exact re_facts hC hn hR hpre ct hanc hs hok' hx i hi
    .cases hx
   .rename_i hw
    split at hx
    .rename_i d hd
     split at hx
     .rename_i a hu
      simp only [Bool.and_eq_true] at hx
      rcases List.mem_cons.1 hi with rfl | hi
      .refine ⟨o,T,h,false,ho,hlook,hw,fun _ d' hd'=>?_,fun e=>by cases e⟩
       rw [hTd d' hd']
       rw [hd] at hd'
       cases hd'
       rw [hu]
       have:a = #[]:=Array.eq_empty_of_size_eq_zero (Nat.eq_of_beq_eq_true hx.1)
       rw [this]; rfl
      .exact re_facts hC hn hR hpre ct hanc hs hok' hx.2 i hi
     .cases hx
    .rename_i hd
     rcases List.mem_cons.1 hi with rfl | hi
     .exact ⟨o,T,h,false,ho,hlook,hw,fun _ d' hd'=>(by rw [hd] at hd'; cases hd'),fun e=>by cases e⟩
     .exact re_facts hC hn hR hpre ct hanc hs hok' hx i hi
   .cases hx
theorem bitB_eq (m j:Nat):bitB m j=m.testBit j:=by
 unfold bitB Nat.testBit
 have h:Nat.land (Nat.shiftRight m j) 1=1 &&& (m >>> j):=by
  show (m >>> j) &&& 1=_
  rw [Nat.and_comm]
 rw [h,Nat.and_comm,Nat.and_one_is_mod]
 have:(m >>> j)%2=0\/(m >>> j)%2=1:=by omega
 rcases this with e | e<;>rw [e]<;>rfl
theorem bit_or (a b j:Nat):bitB (Nat.lor a b) j=(bitB a j||bitB b j):=by
 simp only [bitB_eq]
 exact Nat.testBit_or a b j
theorem bit_and (a b j:Nat):bitB (Nat.land a b) j=(bitB a j&&bitB b j):=by
 simp only [bitB_eq]
 exact Nat.testBit_and a b j
theorem beq_iff {m n:Nat}:Nat.beq m n=true↔m=n:=⟨Nat.eq_of_beq_eq_true,fun e=>by rw [e]; simp⟩
theorem bit_one (i j:Nat):bitB (oneM i) j=Nat.beq j i:=by
 rw [bitB_eq]
 show (1 <<< i).testBit j=_
 rw [Nat.one_shiftLeft,Nat.testBit_two_pow]
 by_cases h:i=j
 .subst h; simp
 .have:Nat.beq j i=false:=by
   cases hb:Nat.beq j i with
   | false=>rfl
   | true=>exact absurd (Nat.eq_of_beq_eq_true hb).symm h
  rw [this,decide_eq_false h]
theorem bit_zero (j:Nat):bitB 0 j=false:=by rw [bitB_eq]; exact Nat.zero_testBit j
theorem sub_bit {a b:Nat} (h:subM a b=true) {j:Nat} (hj:bitB a j=true):bitB b j=true:=by
 have e:=Nat.eq_of_beq_eq_true h
 rw [<- e,bit_and] at hj
 simp only [Bool.and_eq_true] at hj
 exact hj.2
theorem force_eq (n:Nat) (k:Nat->Bool):forceB n k=k n:=by cases n<;>rfl
theorem bit_list {j:Nat}:∀ {l:List Nat},bitB (listM l) j=true↔j∈l
 | []=>by simp [listM,bit_zero]
 | i :: l=>by
   simp only [listM,bit_or,Bool.or_eq_true,bit_one,bit_list (l:=l),List.mem_cons,beq_iff]
theorem mAt_set (M:BT (Option Nat)) (i m j:Nat):mAt (tset M i (some m)) j=if i=j then m else mAt M j:=by
 unfold mAt
 rw [tget_tset]
 by_cases h:i=j<;>simp [h]
theorem maskOf_congr {M M':BT (Option Nat)}:∀ {l:List Edge},(∀ e∈l,Region.binds .any e=true->mAt M e.on=mAt M' e.on)->maskOf M l=maskOf M' l
 | [],_=>rfl
 | e :: l,h=>by
   simp only [maskOf]
   rw [maskOf_congr (l:=l) (fun e' he'=>h e' (List.mem_cons_of_mem _ he'))]
   cases hb:Region.binds .any e with
   | false=>rfl
   | true=>rw [h e (by simp) hb]
theorem mask_bit {M:BT (Option Nat)} {j:Nat}:∀ {l:List Edge},bitB (maskOf M l) j=true->∃ e∈l,Region.binds .any e=true/\(j=e.on\/bitB (mAt M e.on) j=true)
 | [],h=>by rw [maskOf,bit_zero] at h; cases h
 | e :: l,h=>by
   simp only [maskOf] at h
   cases hb:Region.binds .any e with
   | false =>
     rw [hb] at h
     obtain ⟨e',h1,h2⟩:=mask_bit (l:=l) h
     exact ⟨e',List.mem_cons_of_mem _ h1,h2⟩
   | true =>
     rw [hb] at h
     simp only [cond_true,bit_or,Bool.or_eq_true,bit_one,beq_iff] at h
     rcases h with h | h
     .exact ⟨e,by simp,hb,h⟩
     .obtain ⟨e',h1,h2⟩:=mask_bit (l:=l) h
      exact ⟨e',List.mem_cons_of_mem _ h1,h2⟩
structure Go1 (l:List Oper) (i:Nat) (M X:BT (Option Nat)) (a:Nat) (M' X':BT (Option Nat)) (a':Nat):Prop where
 old:∀ j,j<i->mAt M' j=mAt M j
 edges:∀ j o,l[j]? = some o->∀ e∈o.after.toList,Region.binds .any e=true->e.on<i+j
 mask:∀ j o,l[j]? = some o->mAt M' (i+j)=maskOf M' o.after.toList
 keep:∀ d v,tget X d=some v->tget X' d=some v
 wr:∀ j o d,l[j]? = some o->o.dst=some d->tget X' d=some (i+j)
 al:∀ j,bitB a' j=true↔(bitB a j=true\/∃ o,i<=j/\l[j-i]? = some o/\allB o.op=true)
theorem ancGo_spec {k:BT (Option Nat)->BT (Option Nat)->Nat->Bool}:∀ (l:List Oper) (i:Nat) (M X:BT (Option Nat)) (a:Nat),ancGo k l i M X a=true->∃ M' X' a',k M' X' a'=true/\Go1 l i M X a M' X' a'
 | [],i,M,X,a,h=>⟨M,X,a,h,⟨fun _ _=>rfl,fun j o q=>by simp at q,fun j o q=>by simp at q,fun _ _ q=>q,fun j o d q=>by simp at q,fun j=>by simp⟩⟩
 | o :: l,i,M,X,a,h=>by
   simp only [ancGo,Bool.and_eq_true,force_eq] at h
   obtain ⟨he,h⟩:=h
   have hedge:∀ e∈o.after.toList,Region.binds .any e=true->e.on<i:=fun e h1 h2=>by
    have:=List.all_eq_true.1 he e h1
    rw [h2] at this
    exact Nat.le_of_ble_eq_true this
   have key:∀ X1,(∀ d v,tget X d=some v->tget X1 d=some v)->(∀ d,o.dst=some d->tget X1 d=some i)->
    ancGo k l (i+1) (tset M i (some (maskOf M o.after.toList))) X1 (bif allB o.op then Nat.lor a (oneM i) else a)=true->∃ M' X' a',k M' X' a'=true/\Go1 (o :: l) i M X a M' X' a':=by
    intro X1 hX hd hx
    obtain ⟨M',X',a',h1,g⟩:=ancGo_spec l (i+1) _ _ _ hx
    have old:∀ j,j<i->mAt M' j=mAt M j:=fun j hj=>by rw [g.old j (by omega),mAt_set,if_neg (by omega)]
    refine ⟨M',X',a',h1,⟨old,?_,?_,fun d v q=>g.keep d v (hX d v q),?_,?_⟩⟩
    .intro j o' ho' e h1 h2
     cases j with
     | zero=>simp at ho'; subst ho'; exact hedge e h1 h2
     | succ j=>have:=g.edges j o' (by simpa using ho') e h1 h2; omega
    .intro j o' ho'
     cases j with
     | zero =>
       simp at ho'; subst ho'
       rw [Nat.add_zero,g.old i (by omega),mAt_set,if_pos rfl]
       exact maskOf_congr fun e h1 h2=>(old _ (hedge e h1 h2)).symm
     | succ j=>have:=g.mask j o' (by simpa using ho'); rw [<- this]; congr 1; omega
    .intro j o' d ho' hd'
     cases j with
     | zero=>simp at ho'; subst ho'; exact g.keep _ _ (hd d hd')
     | succ j=>have:=g.wr j o' d (by simpa using ho') hd'; rw [this]; congr 1; omega
    .intro j
     rw [g.al j]
     constructor
     .rintro (q | ⟨o',q1,q2,q3⟩)
      .cases ha:allB o.op with
       | false=>rw [ha] at q; exact .inl q
       | true =>
         rw [ha] at q
         simp only [cond_true,bit_or,Bool.or_eq_true,bit_one,beq_iff] at q
         rcases q with q | q
         .exact .inl q
         .subst q; exact .inr ⟨o,Nat.le_refl _,by simp,ha⟩
      .refine .inr ⟨o',by omega,?_,q3⟩
       have:j-i=(j-(i+1))+1:=by omega
       rw [this,List.getElem?_cons_succ]; exact q2
     .rintro (q | ⟨o',q1,q2,q3⟩)
      .refine .inl ?_
       cases ha:allB o.op with
       | false=>exact q
       | true=>simp only [cond_true,bit_or,q,Bool.true_or]
      .rcases Nat.lt_or_ge i j with hlt | hge
       .refine .inr ⟨o',by omega,?_,q3⟩
        have:j-i=(j-(i+1))+1:=by omega
        rw [this,List.getElem?_cons_succ] at q2; exact q2
       .have e:j=i:=by omega
        subst e
        simp at q2
        subst q2
        refine .inl ?_
        rw [q3]
        simp only [cond_true,bit_or,bit_one,Bool.or_eq_true,beq_iff]
        exact .inr trivial
   cases hdst:o.dst with
   | none =>
     rw [hdst] at h
     exact key X (fun _ _ q=>q) (fun d q=>by rw [hdst] at q; cases q) h
   | some d =>
     rw [hdst] at h
     simp only at h
     cases hxd:tget X d with
     | some v=>rw [hxd] at h; cases h
     | none =>
       rw [hxd] at h
       refine key (tset X d (some i)) (fun d' v q=>?_) (fun d' q=>?_) h
       .rw [tget_tset]
        by_cases e:d=d'
        .subst e; rw [hxd] at q; cases q
        .rw [if_neg e]; exact q
       .rw [hdst] at q; cases q; rw [tget_tset,if_pos rfl]
theorem byAll_get {X:BT (Option Nat)} {p:Nat->Bool}:∀ {l:List Tmp},byAll X p l=true->∀ t∈l,∀ j,tget X t=some j->p j=true
 | [],_,t,ht,_,_=>by cases ht
 | t :: l,h,u,hu,j,hj=>by
   simp only [byAll,Bool.and_eq_true] at h
   rcases List.mem_cons.1 hu with e | e
   .subst e
    have:=h.1
    rw [hj] at this
    exact this
   .exact byAll_get h.2 u e j hj
theorem pairF_get {ops:Array Oper} {M X:BT (Option Nat)}:∀ {l:List Oper} {i:Nat},pairF ops M X l i=true->∀ j o,l[j]? = some o->byAll X (fun k=>Nat.beq (i+j) k||bitB (mAt M (i+j)) k||bitB (mAt M k) (i+j)) (o.looksAt ops)=true
 | [],_,_,j,o,h=>by simp at h
 | o :: l,i,h,j,o',ho=>by
   simp only [pairF,Bool.and_eq_true] at h
   cases j with
   | zero=>simp at ho; subst ho; exact h.1
   | succ j =>
     have:=pairF_get h.2 j o' (by simpa using ho)
     have e:i+1+j=i+(j+1):=by omega
     rw [e] at this
     exact this
section
variable {ops : Array Oper} {M X : BT (Option Nat)} {a : Nat}
def listA (n:Nat) (M:BT (Option Nat)):List (List Nat):=(List.range n).map fun i=>(List.range n).filter fun j=>bitB (mAt M i) j
theorem mem_anc {n i j:Nat}:j∈ancOf (listA n M) i↔i<n/\j<n/\bitB (mAt M i) j=true:=by
 unfold ancOf listA
 by_cases h:i<n
 .simp [h]
 .simp [h]
structure PF (ops:Array Oper) (M X:BT (Option Nat)) (a:Nat):Prop where
 edges:∀ i o,ops[i]? = some o->∀ e∈o.after.toList,Region.binds .any e=true->e.on<i
 mask:∀ i o,ops[i]? = some o->mAt M i=maskOf M o.after.toList
 wr:∀ i o d,ops[i]? = some o->o.dst=some d->tget X d=some i
 al:∀ i,bitB a i=true↔opAt? ops allB i=true
theorem get_of_lt {i:Nat} (h:i<ops.size):∃ o,ops[i]? = some o:=⟨ops[i],by simp [h]⟩
theorem lt_of_some {i:Nat} {o:Oper} (h:ops[i]? = some o):i<ops.size:=by
 rcases Nat.lt_or_ge i ops.size with k | k
 .exact k
 .rw [Array.getElem?_eq_none k] at h; cases h
theorem PF.lt (pf:PF ops M X a):∀ (k i j:Nat),i<k->i<ops.size->bitB (mAt M i) j=true->j<i
 | 0,_,_,h,_,_=>by omega
 | k+1,i,j,hk,hi,hb=>by
   obtain ⟨o,ho⟩:=get_of_lt hi
   rw [pf.mask i o ho] at hb
   obtain ⟨e,h1,h2,h3⟩:=mask_bit hb
   have:=pf.edges i o ho e h1 h2
   rcases h3 with rfl | h3
   .exact this
   .have:=pf.lt k e.on j (by omega) (by omega) h3; omega
theorem PF.anc (pf:PF ops M X a) {i j:Nat} (hi:i<ops.size):memN j (ancOf (listA ops.size M) i)=bitB (mAt M i) j:=by
 cases hb:bitB (mAt M i) j with
 | true=>exact memN_iff.2 (mem_anc.2 ⟨hi,by have:=pf.lt (i+1) i j (by omega) hi hb; omega,hb⟩)
 | false =>
   cases hm:memN j (ancOf (listA ops.size M) i) with
   | false=>rfl
   | true=>have:=(mem_anc.1 (memN_iff.1 hm)).2.2; rw [hb] at this; cases this
theorem PF.ancOk (pf:PF ops M X a) (i:Nat) (hi:i<ops.size):ancOk ops (listA ops.size M) i=true:=by
 obtain ⟨o,ho⟩:=get_of_lt hi
 unfold Ev.ancOk
 rw [ho]
 simp only [Bool.and_eq_true,List.all_eq_true]
 refine ⟨fun e he=>?_,fun j hj=>?_⟩
 .cases hb:Region.binds .any e with
  | false=>rfl
  | true=>exact Nat.ble_eq_true_of_le (pf.edges i o ho e he hb)
 .have hb:=(mem_anc.1 hj).2.2
  rw [pf.mask i o ho] at hb
  obtain ⟨e,h1,h2,h3⟩:=mask_bit hb
  rw [List.any_eq_true]
  refine ⟨e,h1,?_⟩
  have hlt:=pf.edges i o ho e h1 h2
  rw [h2,pf.anc (by omega)]
  simp only [Bool.true_and,Bool.or_eq_true,beq_iff]
  exact h3
theorem PF.writes (pf:PF ops M X a) {j t:Nat} (h:writesAt ops j t=true):tget X t=some j:=by
 obtain ⟨o,h1,h2⟩:=writesAt_iff.1 h
 exact pf.wr j o t h1 h2
theorem PF.pairOk (pf:PF ops M X a) (hp:pairF ops M X ops.toList 0=true) (i j:Nat) (hi:i<ops.size) (hj:j<ops.size):pairOk ops (listA ops.size M) i j=true:=by
 obtain ⟨o,ho⟩:=get_of_lt hi
 unfold Ev.pairOk
 rw [ho]
 simp only [Bool.or_eq_true,Bool.and_eq_true,beq_iff]
 by_cases hij:i=j
 .exact .inl hij
 refine .inr ⟨?_,?_⟩
 .rw [List.all_eq_true]
  intro t ht
  cases hw:writesAt ops j t with
  | false=>rfl
  | true =>
    have:=byAll_get (pairF_get hp i o (by simpa using ho)) t ht j (pf.writes hw)
    rw [pf.anc hi,pf.anc hj]
    simp only [Nat.zero_add,Bool.or_eq_true,beq_iff] at this
    simp only [Bool.not_true,Bool.false_or,Bool.or_eq_true]
    rcases this with (h | h) | h
    .exact absurd h hij
    .exact .inl h
    .exact .inr h
 .cases hd:o.dst with
  | none=>rfl
  | some d =>
    simp only
    cases hw:writesAt ops j d with
    | false=>rfl
    | true =>
      have h1:=pf.writes hw
      rw [pf.wr i o d ho hd] at h1
      exact absurd (Option.some.inj h1) hij
def DM (n:Nat) (D:List Nat) (m:Nat):Prop:=∀ i,(i∈D↔bitB m i=true)/\(i∈D->i<n)
theorem DM.cons {n:Nat} {D:List Nat} {m i:Nat} (h:DM n D m) (hi:i<n):DM n (i :: D) (Nat.lor m (oneM i)):=by
 intro j
 rw [bit_or,bit_one]
 simp only [List.mem_cons,Bool.or_eq_true,beq_iff]
 refine ⟨⟨fun q=>q.elim .inr (fun q=>.inl ((h j).1.1 q)),fun q=>q.elim (fun q=>.inr ((h j).1.2 q)) .inl⟩,fun q=>q.elim (fun e=>e ▸ hi) (h j).2⟩
theorem PF.behind (pf:PF ops M X a) {prev:Option Nat} {i:Nat} (hi:i<ops.size) (hp:∀ c,prev=some c->c<ops.size) (h:behindF M prev i=true):behind (listA ops.size M) prev i=true:=by
 unfold behindF at h
 unfold Ev.behind
 cases prev with
 | none=>rfl
 | some c =>
   simp only [Bool.and_eq_true] at h ⊢
   rw [pf.anc hi]
   refine ⟨h.1,?_⟩
   unfold subN
   rw [List.all_eq_true]
   intro j hj
   rw [pf.anc hi]
   exact sub_bit h.2 (mem_anc.1 hj).2.2
theorem PF.look (pf:PF ops M X a) {D:List Nat} {m i:Nat} {o:Oper} (hD:DM ops.size D m) (ho:ops[i]? = some o) (h:lookF ops M X m i=true):((o.looksAt ops).all fun t=>D.all fun j=>!writesAt ops j t||memN j (ancOf (listA ops.size M) i))=true:=by
 unfold lookF at h
 rw [ho] at h
 rw [List.all_eq_true]
 intro t ht
 rw [List.all_eq_true]
 intro j hj
 cases hw:writesAt ops j t with
 | false=>rfl
 | true =>
   have:=byAll_get h t ht j (pf.writes hw)
   rw [(hD j).1.1 hj] at this
   rw [pf.anc (lt_of_some ho)]
   simpa using this
theorem PF.lookOk (pf:PF ops M X a) {D:List Nat} {m i:Nat} (hD:DM ops.size D m) (h1:subM (mAt M i) m=true) (h2:(!bitB (mAt M i) i)=true) (h:lookF ops M X m i=true):lookOk ops (listA ops.size M) D i=true:=by
 unfold Ev.lookOk
 cases ho:ops[i]? with
 | none=>unfold lookF at h; rw [ho] at h; cases h
 | some o =>
   simp only [Bool.and_eq_true]
   refine ⟨⟨?_,?_⟩,pf.look hD ho h⟩
   .unfold subN
    rw [List.all_eq_true]
    intro j hj
    exact memN_iff.2 ((hD j).1.2 (sub_bit h1 (mem_anc.1 hj).2.2))
   .rw [pf.anc (lt_of_some ho)]; exact h2
theorem opAt_lt {p:Op->Bool} {i:Nat} (h:opAt? ops p i=true):i<ops.size:=by
 unfold opAt? at h
 cases ho:ops[i]? with
 | none=>rw [ho] at h; cases h
 | some o=>exact lt_of_some ho
theorem PF.pre (pf:PF ops M X a) {prev:Option Nat} (hp:∀ c,prev=some c->c<ops.size) {k:Nat->Bool}:∀ {l:List Nat} {D:List Nat} {m:Nat},DM ops.size D m->preF ops M X prev k l m=true->
 preOk ops (listA ops.size M) prev D l=true/\∃ m',DM ops.size (l.reverse++D) m'/\k m'=true
 | [],D,m,hD,h=>⟨rfl,m,hD,h⟩
 | i :: l,D,m,hD,h=>by
   simp only [preF,Bool.and_eq_true,force_eq] at h
   obtain ⟨⟨⟨⟨⟨⟨h1,h2⟩,h3⟩,h4⟩,h5⟩,h6⟩,h7⟩:=h
   have hi:i<ops.size:=by
    simp only [Bool.or_eq_true] at h1
    exact h1.elim opAt_lt opAt_lt
   obtain ⟨q1,m',q2,q3⟩:=pf.pre hp (hD.cons hi) h7
   refine ⟨?_,m',by simpa using q2,q3⟩
   simp only [preOk,Bool.and_eq_true]
   refine ⟨⟨⟨⟨h1,?_⟩,pf.behind hi hp h3⟩,pf.lookOk hD h4 h5 h6⟩,q1⟩
   cases hm:memN i D with
   | false=>rfl
   | true=>rw [(hD i).1.1 (memN_iff.1 hm)] at h2; cases h2
theorem PF.re (pf:PF ops M X a) {D:List Nat} {m:Nat} (hD:DM ops.size D m):∀ {l:List Nat},reF ops M X m l=true->reOk ops (listA ops.size M) D l=true
 | [],_=>rfl
 | i :: l,h=>by
   simp only [reF,Bool.and_eq_true] at h
   have ih:=pf.re hD h.2
   unfold reOk at ih ⊢
   simp only [List.all_cons,Bool.and_eq_true]
   refine ⟨⟨⟨h.1.1.1,memN_iff.2 ((hD i).1.2 h.1.1.2)⟩,?_⟩,ih⟩
   cases ho:ops[i]? with
   | none =>
     have:=opAt_lt h.1.1.1
     obtain ⟨o,ho'⟩:=get_of_lt this
     rw [ho] at ho'; cases ho'
   | some o=>exact pf.look hD ho h.1.2
theorem wait_get {D c:Nat}:∀ {n:Nat},waitF M D c n=true->∀ i,i<n->bitB D i=true\/i=c\/bitB (mAt M i) c=true
 | 0,_,i,hi=>by omega
 | n+1,h,i,hi=>by
   simp only [waitF,Bool.and_eq_true,Bool.or_eq_true,beq_iff] at h
   by_cases e:i=n
   .subst e; rcases h.1 with (q | q) | q
    .exact .inl q
    .exact .inr (.inl q)
    .exact .inr (.inr q)
   .exact wait_get h.2 i (by omega)
theorem full_bit {n i:Nat} (h:i<n):bitB (Nat.sub (Nat.pow 2 n) 1) i=true:=by
 rw [bitB_eq]
 show (2 ^ n-1).testBit i=true
 rw [Nat.testBit_two_pow_sub_one]
 simpa using h
theorem PF.st (pf:PF ops M X a):∀ {l:List Stage} {prev:Option Nat} {D:List Nat} {m:Nat},(∀ c,prev=some c->c<ops.size)->DM ops.size D m->stF ops M X a l prev m=true->stOk ops (listA ops.size M) D prev l=true
 | [],prev,D,m,_,_,h=>by cases h
 | s :: l,prev,D,m,hprev,hD,h=>by
   simp only [stF,Bool.and_eq_true] at h
   obtain ⟨⟨h1,h2⟩,h3⟩:=h
   obtain ⟨p1,m',hD1,p2⟩:=pf.pre hprev hD h3
   have hcover:coverOk ops (listA ops.size M) prev D s.re=true:=by
    unfold coverOk
    rw [List.all_eq_true]
    intro i hi
    have hb:=sub_bit h1 ((hD i).1.1 hi)
    simp only [bit_or,Bool.or_eq_true] at hb
    simp only [Bool.or_eq_true]
    rcases hb with hb | hb | hb
    .exact .inl (.inl (memN_iff.2 (bit_list.1 hb)))
    .exact .inl (.inr ((pf.al i).1 hb))
    .refine .inr ?_
     cases prev with
     | none=>rw [prevM,bit_zero] at hb; cases hb
     | some c =>
       simp only [prevM,bit_or,Bool.or_eq_true,bit_one,beq_iff] at hb
       simp only [Bool.or_eq_true,beq_iff]
       rw [pf.anc (hprev c rfl)]
       exact hb
   simp only [stOk,Bool.and_eq_true]
   refine ⟨⟨⟨hcover,pf.re hD h2⟩,p1⟩,?_⟩
   cases hl:s.loud with
   | none =>
     rw [hl] at p2
     simp only [Bool.and_eq_true] at p2 ⊢
     refine ⟨?_,p2.2⟩
     rw [List.all_eq_true]
     intro i hi
     exact memN_iff.2 ((hD1 i).1.2 (sub_bit p2.1 (full_bit (by simpa using hi))))
   | some c =>
     rw [hl] at p2
     simp only [Bool.and_eq_true,force_eq] at p2 ⊢
     obtain ⟨⟨⟨⟨⟨⟨⟨⟨⟨q1,q2⟩,q3⟩,q4⟩,q5⟩,q6⟩,q7⟩,q8⟩,q9⟩,q10⟩:=p2
     have hc:c<ops.size:=by
      cases ho:ops[c]? with
      | none=>rw [ho] at q1; cases q1
      | some o=>exact lt_of_some ho
     refine ⟨⟨⟨⟨⟨⟨⟨q1,q2⟩,?_⟩,pf.behind hc hprev q4⟩,pf.lookOk hD1 q5 q6 q7⟩,?_⟩,?_⟩,?_⟩
     .cases hm:memN c (s.pre.reverse++D) with
      | false=>rfl
      | true=>rw [(hD1 c).1.1 (memN_iff.1 hm)] at q3; cases q3
     .rw [List.all_eq_true]
      intro i hi
      cases ha:opAt? ops allB i with
      | false=>rfl
      | true =>
        have hb:=sub_bit q8 (j:=i) (by rw [bit_and,(hD1 i).1.1 hi,(pf.al i).2 ha]; rfl)
        simp only [bit_or,Bool.or_eq_true] at hb
        rw [pf.anc hc]
        simp only [Bool.not_true,Bool.false_or,Bool.or_eq_true]
        exact hb.imp (fun q=>memN_iff.2 (bit_list.1 q)) id
     .rw [List.all_eq_true]
      intro i hi
      have hin:i<ops.size:=by simpa using hi
      simp only [Bool.or_eq_true,beq_iff]
      rw [pf.anc hin]
      rcases wait_get q9 i hin with q | q | q
      .exact .inl (.inl (memN_iff.2 ((hD1 i).1.2 q)))
      .exact .inl (.inr q)
      .exact .inr q
     .exact pf.st (fun c' e=>by cases e; exact hc) (hD1.cons hc) q10
theorem planOk_spec {st:List Stage} (h:planOk ops st=true):∃ A,(∀ i,i<ops.size->ancOk ops A i=true)/\(∀ i j,i<ops.size->j<ops.size->pairOk ops A i j=true)/\stOk ops A [] none st=true:=by
 obtain ⟨M,X,a,h1,g⟩:=ancGo_spec _ _ _ _ _ h
 simp only [Bool.and_eq_true] at h1
 have pf:PF ops M X a:=by
  refine ⟨fun i o ho e h1 h2=>?_,fun i o ho=>?_,fun i o d ho hd=>?_,fun i=>?_⟩
  .have:=g.edges i o (by simpa using ho) e h1 h2; omega
  .have:=g.mask i o (by simpa using ho); simpa using this
  .have:=g.wr i o d (by simpa using ho) hd; simpa using this
  .rw [g.al i]
   simp only [bit_zero,Bool.false_eq_true,false_or,Nat.zero_le,Nat.sub_zero,true_and,Array.getElem?_toList]
   unfold opAt?
   constructor
   .rintro ⟨o,q1,q2⟩; rw [q1]; exact q2
   .intro q
    cases ho:ops[i]? with
    | none=>rw [ho] at q; cases q
    | some o=>rw [ho] at q; exact ⟨o,rfl,q⟩
 exact ⟨listA ops.size M,pf.ancOk,pf.pairOk h1.1,pf.st (fun c e=>by cases e) (fun i=>⟨⟨fun q=>(by cases q),fun q=>by rw [bit_zero] at q; cases q⟩,fun q=>(by cases q)⟩) h1.2⟩
end
end Go.Ev
namespace Go.Ev
open Go.Deep Go.RowKit
theorem Inv.pre [LG] {C:Ctx} {D pre:List Nat} {prev:Option Nat} {h h1:Hp} {listed:Array Bool} {a:Act} {w:World} {θ:Th} {T T1:Tm} (inv:Inv C D prev h listed a w θ) (hR:PreR C.E C.ops C.base pre T h T1 h1) (hpre:∀ k∈pre,k∉D) (hlt:∀ k∈pre,k<C.ops.size):Inv C (pre.reverse++D) prev h1 listed a w θ:=by
 have down:∀ n e x,tget h1.m n=some e->θ n=some x->tget h.m n=some e:=by
  intro n e x q1 q2
  cases hc:tget h.m n with
  | some e' =>
    have:=hR.sub n e' hc
    rw [q1] at this
    exact this.symm
  | none =>
    obtain ⟨k,hk,e1⟩:=hR.new n e q1 hc
    have:=inv.names k (hlt k hk) (fun q=>hpre k hk (inv.sub k q))
    rw [<- e1,q2] at this
    cases this
 refine ⟨inv.size,inv.down,fun i q=>by simp [inv.sub i q],inv.last,inv.defers,inv.tsize,inv.old,inv.new,⟨fun n e x q1 q2=>inv.heap.ent n e x (down n e x q1 q2) q2,fun n m e e' x y q1 q2 hne q3 q4=>inv.heap.sep n m e e' x y (down n e x q1 q3) (down m e' y q2 q4) hne q3 q4,fun n q=>inv.heap.fresh n (by rw [<- hR.nxt]; exact q)⟩,inv.names,by rw [hR.nxt]; exact inv.nxt,?_⟩
 have x:=inv.ext
 exact ⟨x.keep,x.only,by rw [hR.nxt]; exact x.nxt,x.size,x.tape,x.os,x.output,x.frame,fun n e y q1 qu q2=>x.ownw n e y (down n e y q1 q2) qu q2,fun n e y q1 q2=>x.own n e y (down n e y q1 q2) q2⟩
theorem behind_spec {A:List (List Nat)} {c i:Nat} (h:behind A (some c) i=true):c∈ancOf A i/\∀ j∈ancOf A c,j∈ancOf A i:=by
 simp only [behind,Bool.and_eq_true] at h
 exact ⟨memN_iff.1 h.1,fun j hj=>subN_mem h.2 hj⟩
theorem preOk_lt {ops:Array Oper} {A:List (List Nat)} {prev:Option Nat}:∀ {l D:List Nat},preOk ops A prev D l=true->∀ i∈l,i<ops.size
 | [],_,_,i,hi=>by cases hi
 | k :: l,D,h,i,hi=>by
   obtain ⟨h1,_,_,_,h5⟩:=preOk_cons h
   rcases List.mem_cons.1 hi with rfl | hi
   .rcases h1 with q | q<;>(obtain ⟨o,ho,_⟩:=opAt_some q; exact lt_of_get ho)
   .exact preOk_lt h5 i hi
theorem stages_main [LG] {C:Ctx} (hC:CtxOk C) {call:Nat->List Value->Hp->Option (Value × Hp)} (hcall:∀ h,CallAt C.E.P call h.nxt h) {hf:Hp} {Q:Exit->Act->World->Prop}
 (hQ:∀ θ a w,TR θ C.Tf a->a.tmps.size=C.S->a.defers=C.ds->HR θ hf w->Ext C.base C.θ0 C.h0 C.w0 θ hf w->Q .normal a w) :
 ∀ (st:List Stage) (D:List Nat) (prev:Option Nat) (T:Tm) (h:Hp),stOk C.ops C.A D prev st=true->xstages C.E call C.ops C.base st T h=some (C.Tf,hf)->CT C D T->(∀ i∈D,∀ j∈ancOf C.A i,j∈D)->
  (∀ i∈D,opAt? C.ops allB i=true->(∀ c,prev=some c->i≠c/\i∉ancOf C.A c)->AFact C h i)->
  ∀ (fuel:Nat) (listed:Array Bool) (a:Act) (w:World) (θ:Th),Inv C D prev h listed a w θ->cntF listed C.ops.size<=fuel->wpAnyIn (FW C.ro) 0 C.E.P .any C.ops Q fuel listed a w
 | [],D,prev,T,h,hst,_,_,_,_,_,_,_,_,_,_,_=>by simp [stOk] at hst
 | s :: l,D,prev,T,h,hst,hx,ct,hancD,haf,fuel,listed,a,w,θ,inv,hcnt=>by
   have hst0:=hst
   have hx0:=hx
   obtain ⟨s1,s2,s3,s4⟩:=stOk_cons hst
   simp only [xstages] at hx
   cases hre:xre C.E C.ops C.base T h s.re<;>simp only [hre,cond_true,cond_false,reduceCtorEq] at hx
   split at hx
   .cases hx
   rename_i T1 h1 hpre
   have hnx:=inv.nxt
   have hR:=pre_R (E:=C.E) s3 hnx hpre
   have hnew:=preOk_new s3
   have hplt:=preOk_lt s3
   have hmem:∀ j,j∈s.pre.reverse++D↔(j∈s.pre\/j∈D):=fun j=>by simp
   -- what has been written stays
   have hstab:∀ t j,(j∈s.pre\/j∈D)->writesAt C.ops j t=true->tget C.Tf t=tget T1 t:=by
    intro t j hj hw
    rcases s4 with ⟨e1,e2,_⟩ | ⟨c,o,e1,ho,_,hc,_,_,_,_,hst'⟩
    .rw [e1] at hx
     subst e2
     simp only at hx
     cases hx
     rfl
    .rw [e1] at hx
     simp only [ho] at hx
     have hcw:o.dst≠some t:=fun e=>by
      have hq:=writesAt_iff.2 ⟨o,ho,e⟩
      have:=pair_dst hC.pair hq hw
      subst this
      exact hc ((hmem _).2 hj)
     have hjD:j∈c :: (s.pre.reverse++D):=List.mem_cons_of_mem _ ((hmem j).2 hj)
     split at hx
     .split at hx
      .rw [stages_T hC.pair hst' hx t j hjD hw,tputD_ne hcw]
      .cases hx
     .rw [stages_T hC.pair hst' hx t j hjD hw,tputD_ne hcw]
     .cases hx
   obtain ⟨ct1,hancP,hfacts⟩:=pre_facts hC s3 hnx hpre ct hstab
   have hrf:=re_facts hC hnx hR hnew ct hancD (fun t j hj hw=>stages_T hC.pair hst0 hx0 t j hj hw) s2 hre
   have haf1:∀ i∈s.pre.reverse++D,opAt? C.ops allB i=true->(∀ c,prev=some c->i≠c/\i∉ancOf C.A c)->AFact C h1 i:=by
    intro i hi ha hp
    rcases (hmem i).1 hi with q | q
    .exact (hfacts i q).2 ha
    .exact (haf i q ha hp).mono (fun e q2=>hR.sub _ _ q2)
   have hanc1:∀ i∈s.pre.reverse++D,∀ j∈ancOf C.A i,j∈s.pre.reverse++D:=by
    intro i hi j hj
    rw [hmem]
    rcases (hmem i).1 hi with q | q
    .exact hancP i q j hj
    .exact .inr (hancD i q j hj)
   -- every one that may be done later than it was reckoned
   have fact:∀ {listed a w θ},Inv C (s.pre.reverse++D) prev h1 listed a w θ->∀ i∈s.pre.reverse++D,¬ Lst listed i->SFact C h1 i:=by
    intro listed a w θ inv1 i hi hni
    rcases (hmem i).1 hi with q | q
    .exact (hfacts i q).1
    .unfold coverOk at s1
     rw [List.all_eq_true] at s1
     have h2:=s1 i q
     simp only [Bool.or_eq_true] at h2
     rcases h2 with (h3 | h3) | h3
     .exact hrf i (memN_iff.1 h3)
     .have hilt:i<C.ops.size:=by obtain ⟨o,ho,_⟩:=opAt_some h3; exact lt_of_get ho
      refine (haf1 i hi h3 fun c hc=>⟨fun e=>?_,fun e=>?_⟩).sfact (by have:=inv1.nxt; omega)
      .subst e; exact hni (inv1.last _ hc)
      .have hLc:=inv1.last c hc
       have hclt:c<C.ops.size:=by
        unfold Lst at hLc
        rcases Nat.lt_or_ge c listed.size with g | g
        .rw [<- inv1.size]; exact g
        .simp [Array.getD_eq_getD_getElem?,Array.getElem?_eq_none g] at hLc
       exact hni (lst_of_anc hC.anc inv1.down hclt hLc e)
     .cases hp:prev with
      | none=>rw [hp] at h3; cases h3
      | some c =>
        rw [hp] at h3
        simp only [Bool.or_eq_true] at h3
        have hLc:=inv1.last c hp
        rcases h3 with h4 | h4
        .have e:i=c:=Nat.eq_of_beq_eq_true h4
         subst e
         exact absurd hLc hni
        .have hclt:c<C.ops.size:=by
          unfold Lst at hLc
          rcases Nat.lt_or_ge c listed.size with g | g
          .rw [<- inv1.size]; exact g
          .simp [Array.getD_eq_getD_getElem?,Array.getElem?_eq_none g] at hLc
         exact absurd (lst_of_anc hC.anc inv1.down hclt hLc (memN_iff.1 h4)) hni
   -- all are done
   have done:∀ {listed a w θ},Inv C (s.pre.reverse++D) prev h1 listed a w θ->(∀ i,i<C.ops.size->Lst listed i)->Q .normal a w:=by
    intro listed a w θ inv1 hall
    rcases s4 with ⟨e1,e2,_⟩ | ⟨c,o,e1,ho,_,hc,_⟩
    .rw [e1] at hx
     subst e2
     simp only [Option.some.injEq,Prod.mk.injEq] at hx
     obtain ⟨hT,hh⟩:=hx
     refine hQ θ a w ⟨fun t v hv=>?_⟩ inv1.tsize inv1.defers (hh ▸ inv1.heap) (hh ▸ inv1.ext)
     by_cases hex:∃ j,writesAt C.ops j t=true
     .obtain ⟨j,hw⟩:=hex
      obtain ⟨oj,hoj,_⟩:=writesAt_iff.1 hw
      exact inv1.new t v j (hall j (lt_of_get hoj)) hw hv
     .have hno:∀ j,writesAt C.ops j t=false:=fun j=>by
       cases hq:writesAt C.ops j t with
       | false=>rfl
       | true=>exact absurd ⟨j,hq⟩ hex
      rw [<- hT,ct1 t fun j _=>hno j] at hv
      exact inv1.old t v hv fun j _=>hno j
    .exact absurd (inv1.sub c (hall c (lt_of_get ho))) hc
   have inner:∀ (fuel:Nat) (listed:Array Bool) (a:Act) (w:World) (θ:Th),Inv C (s.pre.reverse++D) prev h1 listed a w θ->cntF listed C.ops.size<=fuel->wpAnyIn (FW C.ro) 0 C.E.P .any C.ops Q fuel listed a w:=by
    intro fuel
    induction fuel with
    | zero =>
      intro listed a w θ inv1 hc
      have hall:=cnt_zero (listed:=listed) (k:=C.ops.size) (by omega)
      refine ⟨?_,done inv1 hall⟩
      cases hr:Region.ready .any C.ops listed with
      | nil=>rfl
      | cons i r =>
        have hm:i∈Region.ready .any C.ops listed:=by rw [hr]; simp
        obtain ⟨q1,q2,_⟩:=mem_ready' inv1.size hm
        exact absurd (hall i q1) q2
    | succ fuel ih =>
      intro listed a w θ inv1 hc
      refine ⟨fun hr=>done inv1 fun i hi=>all_done hC.anc inv1.size hr (i+1) i (by omega) hi,fun i hi=>?_⟩
      obtain ⟨q1,q2,q3⟩:=mem_ready' inv1.size hi
      have hcs:=(cnt_set (listed:=listed) (i:=i) (by rw [inv1.size]; exact q1) q2 C.ops.size).1 q1
      by_cases hiD:i∈s.pre.reverse++D
      .exact silent_step hC inv1 hi hiD (fact inv1 i hiD q2) fun θ' a' w' inv'=>ih _ a' w' θ' inv' (by omega)
      .rcases s4 with ⟨_,_,hall⟩ | ⟨c,o,e1,ho,hhide,hcD,hbh,hlk,hal,hfu,hst'⟩
       .exact absurd (hall i q1) hiD
       .have hancI:∀ j∈ancOf C.A i,Lst listed j:=anc_down hC.anc inv1.down (i+1) i (by omega) q1 q3
        have hic:i=c:=by
         rcases hfu i q1 with g | g | g
         .exact absurd g hiD
         .exact g
         .exact absurd (inv1.sub c (hancI c g)) hcD
        subst hic
        obtain ⟨lk1,lk2⟩:=lookOk_spec ho hlk
        have hlook:Look C T1 i o:=by
         refine ⟨fun t ht j hj hw=>(hstab t j ((hmem j).1 (lk1 j hj)) hw).symm,fun t ht hno=>ct1 t fun j hj=>?_⟩
         cases hq:writesAt C.ops j t with
         | false=>rfl
         | true=>rw [hno j (lk2 t ht j hj hq)] at hq; cases hq
        rw [e1] at hx
        simp only [ho] at hx
        have hanc2:∀ k∈i :: (s.pre.reverse++D),∀ j∈ancOf C.A k,j∈i :: (s.pre.reverse++D):=by
         intro k hk j hj
         rcases List.mem_cons.1 hk with rfl | hk
         .exact List.mem_cons_of_mem _ (lk1 j hj)
         .exact List.mem_cons_of_mem _ (hanc1 k hk j hj)
        split at hx
        .rename_i hw
         split at hx
         .rename_i v h2 hop
          refine loud_step hC hcall inv1 hi ho hlook hhide hw hop (fun d hd=>?_) fun θ' a' w' hnn inv'=>?_
          .rw [stages_T hC.pair hst' hx d i (by simp) (writesAt_iff.2 ⟨o,ho,hd⟩),hd,tputD_same]
          .refine stages_main hC hcall hQ l _ (some i) _ _ hst' hx (ct1.cons ho v) hanc2 ?_ fuel _ a' w' θ' inv' (by omega)
           intro k hk ha hp
           obtain ⟨p1,p2⟩:=hp i rfl
           have hkD:k∈s.pre.reverse++D:=(List.mem_cons.1 hk).resolve_left p1
           have hkh:k∈s.hide:=(hal k hkD ha).resolve_right p2
           have hkl:k<C.ops.size:=by obtain ⟨o',ho',_⟩:=opAt_some ha; exact lt_of_get ho'
           refine (haf1 k hkD ha fun c' hc'=>⟨fun e=>?_,fun e=>?_⟩).mono fun e q=>?_
           .subst e
            rw [hc'] at hbh
            exact p2 (behind_spec hbh).1
           .rw [hc'] at hbh
            exact p2 ((behind_spec hbh).2 k e)
           .rw [back_get.1 ⟨k,hkh,rfl⟩]; exact q
         .cases hx
        .rename_i hw
         have hwanted:=want_sound (look_guard hC inv1 ho q2 hancI hlook) hw
         unfold wpOpIn
         rw [ho]
         simp only
         rw [if_neg (by rw [hwanted]; simp)]
         have hTf:∀ d,o.dst=some d->tget C.Tf d=some undefV:=fun d hd=>by
          rw [stages_T hC.pair hst' hx d i (by simp) (writesAt_iff.2 ⟨o,ho,hd⟩),hd,tputD_same]
         have inv':=inv_step (D':=i :: (s.pre.reverse++D)) (prev':=some i) hC inv1 hi ho (fun _ _ q=>q) (fun j q=>List.mem_cons_of_mem _ q) (by simp) (fun c' q=>.inl (Option.some.inj q).symm) hTf undef_W inv1.heap inv1.ext (fun _ _ _ q=>q) inv1.nxt
         refine ⟨fun _ _=>fn_FW,stages_main hC hcall hQ l _ (some i) _ _ hst' hx (ct1.cons ho undefV) hanc2 ?_ fuel _ _ w θ inv' (by omega)⟩
         intro k hk ha hp
         obtain ⟨p1,p2⟩:=hp i rfl
         have hkD:k∈s.pre.reverse++D:=(List.mem_cons.1 hk).resolve_left p1
         refine haf1 k hkD ha fun c' hc'=>⟨fun e=>?_,fun e=>?_⟩
         .subst e
          rw [hc'] at hbh
          exact p2 (behind_spec hbh).1
         .rw [hc'] at hbh
          exact p2 ((behind_spec hbh).2 k e)
        .cases hx
   exact inner fuel listed a w θ (inv.pre hR hnew hplt) hcnt
theorem draw_sound [LG] {E:Env} (hE:EnvT E) (hm:E.P.follows .mixedOrders=true) {call:Nat->List Value->Hp->Option (Value × Hp)} (hcall:∀ h,CallAt E.P call h.nxt h) {ops:Array Oper} {N id:Nat} {st:List Stage} {T T':Tm} {h h':Hp} {θ:Th} {a:Act} {w:World} {Q:Exit->Act->World->Prop} {ro:Option Nat}
 (hx:xstages E call ops h.nxt st T ⟨h.m,h.nxt+ops.size⟩=some (T',h')) (hp:planOk ops st=true) (hd:dstsOk N ops.toList=true) (ht:TR θ T a) (hN:N<=a.tmps.size) (hr:HR θ h w)
 (hQ:∀ θ' a' w',Ext h.nxt θ h w θ' h' w'->HR θ' h' w'->TR θ' T' a'->a'.tmps.size=a.tmps.size->a'.defers=a.defers->Q .normal a' w'):(Code.region id ops true).wpIn (FW ro) 0 E.P Q a w:=by
 refine wpIn_region_any hm ?_
 obtain ⟨A,hp1,hp2,hp3⟩:=planOk_spec hp
 let C:Ctx:=⟨E,ops,A,h.nxt,a.tmps.size,T,T',θ,h,{ w with drawn:=w.drawn+1 },a.defers,ro⟩
 have hC:CtxOk C:=⟨hE,fun i hi=>hp1 i hi,fun i j hi hj=>hp2 i j hi hj,fun i o d ho hdd=>Nat.lt_of_lt_of_le (dstsOk_get hd i o (by simpa using ho) d hdd) hN,rfl⟩
 have hr1:HR θ ⟨h.m,h.nxt+ops.size⟩ { w with drawn:=w.drawn+1 }:=⟨(hr.drawn (w.drawn+1)).ent,(hr.drawn (w.drawn+1)).sep,fun n hn=>hr.fresh n (by have:h.nxt+ops.size<=n:=hn; omega)⟩
 have hl0:∀ i,¬ Lst (Array.replicate ops.size false) i:=fun i hq=>by
  unfold Lst at hq
  rw [Array.getD_eq_getD_getElem?,Array.getElem?_replicate] at hq
  split at hq<;>simp at hq
 have inv:Inv C [] none ⟨h.m,h.nxt+ops.size⟩ (Array.replicate ops.size false) a { w with drawn:=w.drawn+1 } θ:=by
  refine ⟨by simp [C],fun i o _ hL=>absurd hL (hl0 i),fun i hL=>absurd hL (hl0 i),fun c hc=>(by cases hc),rfl,rfl,fun t v hv _=>ht.tmps t v hv,fun t v j hL=>absurd hL (hl0 j),hr1,fun j hj _=>hr.fresh _ (by show h.nxt<=h.nxt+j; omega),Nat.le_refl _,?_⟩
  exact ⟨fun _ _ q=>q,fun _ _ _=>rfl,by show h.nxt<=h.nxt+ops.size; omega,Nat.le_refl _,rfl,rfl,rfl,fun _ _ _=>rfl,fun n e x q1 qu q2=>.inr ⟨n,e,x,q1,qu,q2,rfl⟩,fun n e x q1 q2=>.inr ⟨n,e,x,q1,q2,rfl⟩⟩
 have hcnt:∀ k,k<=ops.size->cntF (Array.replicate ops.size false) k<=k:=by
  intro k
  induction k with
  | zero=>intro _; simp [cntF]
  | succ k ih =>
    intro hk
    have:=ih (by omega)
    simp only [cntF]
    cases (Array.replicate ops.size false).getD k false<;>simp<;>omega
 refine stages_main hC hcall ?_ st [] none T _ hp3 hx (fun t _=>rfl) (fun i hi=>(by cases hi)) (fun i hi=>(by cases hi)) ops.size _ a _ θ inv (hcnt _ (Nat.le_refl _))
 intro θ' a' w' t1 t2 td t3 t4
 refine hQ θ' a' w' ?_ t3 t1 t2 td
 exact ⟨t4.keep,t4.only,t4.nxt,t4.size,t4.tape,t4.os,t4.output,t4.frame,t4.ownw,t4.own⟩
end Go.Ev
