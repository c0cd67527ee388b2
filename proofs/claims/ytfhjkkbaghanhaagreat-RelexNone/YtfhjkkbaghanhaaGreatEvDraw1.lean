import Derived.Test.YtfhjkkbaghanhaaGreatEvSeq
set_option linter.unusedVariables false
set_option linter.unusedSimpArgs false
namespace Go.Ev
open Go.Deep Go.RowKit
theorem memN_iff {i:Nat}:∀ {l:List Nat},memN i l=true↔i∈l
 | []=>by simp [memN]
 | j :: l=>by
   simp only [memN,Bool.or_eq_true,List.mem_cons,memN_iff (l:=l)]
   exact ⟨fun h=>h.imp Nat.eq_of_beq_eq_true id,fun h=>h.imp (fun e=>by rw [e]; simp) id⟩
theorem subN_mem {l m:List Nat} (h:subN l m=true) {i:Nat} (hi:i∈l):i∈m:=by
 unfold subN at h
 rw [List.all_eq_true] at h
 exact memN_iff.1 (h i hi)
theorem eqS0_eq {u v:Value} (h:eqS0 u v=true):u=v:=by
 unfold eqS0 at h
 split at h
 ·rw [eq_of_beq h]
 ·simp only [Bool.and_eq_true,decide_eq_true_eq] at h
  rw [h.1,h.2]
 ·have:=of_decide_eq_true h
  rename_i a b
  congr 1
  cases a; cases b
  simp only at this
  congr 1
  exact Array.toList_inj.1 this
 ·rfl
 ·rw [of_decide_eq_true h]
 ·simp only [Bool.and_eq_true] at h
  rw [Nat.eq_of_beq_eq_true h.1,Nat.eq_of_beq_eq_true h.2]
 ·simp only [Bool.and_eq_true,decide_eq_true_eq] at h
  rw [h.1.1,Nat.eq_of_beq_eq_true h.1.2,Nat.eq_of_beq_eq_true h.2]
 ·rfl
 ·rfl
 ·rfl
 ·rw [Nat.eq_of_beq_eq_true h]
 ·cases h
theorem eqL0_eq:∀ {u v:List Value},eqL0 u v=true→u=v
 | [],[],_=>rfl
 | a :: x,b :: y,h=>by
   simp only [eqL0,Bool.and_eq_true] at h
   rw [eqS0_eq h.1,eqL0_eq h.2]
 | [],_ :: _,h=>by simp [eqL0] at h
 | _ :: _,[],h=>by simp [eqL0] at h
theorem eqV0_eq {u v:Value} (h:eqV0 u v=true):u=v:=by
 unfold eqV0 at h
 split at h
 ·rename_i a b
  congr 1
  exact Array.toList_inj.1 (eqL0_eq h)
 ·exact eqS0_eq h
theorem eqLV0_eq:∀ {u v:List Value},eqLV0 u v=true→u=v
 | [],[],_=>rfl
 | a :: x,b :: y,h=>by
   simp only [eqLV0,Bool.and_eq_true] at h
   rw [eqV0_eq h.1,eqLV0_eq h.2]
 | [],_ :: _,h=>by simp [eqLV0] at h
 | _ :: _,[],h=>by simp [eqLV0] at h
theorem eqS_eq {u v:Value} (h:eqS u v=true):u=v:=by
 unfold eqS at h
 split at h
 ·rename_i f a b g c d
  simp only [Bool.and_eq_true] at h
  have e1:f=g:=Nat.eq_of_beq_eq_true h.1.1
  rw [e1,Array.toList_inj.1 (eqLV0_eq h.1.2),Array.toList_inj.1 (eqLV0_eq h.2)]
 ·exact eqS0_eq h
theorem eqL_eq:∀ {u v:List Value},eqL u v=true→u=v
 | [],[],_=>rfl
 | a :: x,b :: y,h=>by
   simp only [eqL,Bool.and_eq_true] at h
   rw [eqS_eq h.1,eqL_eq h.2]
 | [],_ :: _,h=>by simp [eqL] at h
 | _ :: _,[],h=>by simp [eqL] at h
theorem eqV_eq {u v:Value} (h:eqV u v=true):u=v:=by
 unfold eqV at h
 split at h
 ·rename_i a b
  congr 1
  exact Array.toList_inj.1 (eqL_eq h)
 ·exact eqS_eq h
theorem sil_same {E:Env} {call:Nat→List Value→Hp→Option (Value × Hp)} {nm:Nat} {o:Oper} {T:Tm} {h h':Hp} {v:Value} (hs:silB o.op=true) (hn:nm<h.nxt) (hx:xop E call nm o T h=some (v,h')):h'=h:=by
 have plain:∀ {v h'},xplain E o (opv T) h=some (v,h')→h'=h:=by
  intro v h' hp
  unfold xplain at hp
  split at hp
  ·cases hp
  ·rename_i vs _
   cases hq:allPlainA vs<;>simp only [hq,cond_true,cond_false,reduceCtorEq] at hp
   split at hp
   ·rename_i u _
    cases hq2:isPlain u<;>simp [hq2] at hp
    exact hp.2.symm
   ·cases hp
 unfold xop xopR at hx
 split at hx<;>rename_i ho<;>(try (rw [ho] at hs; simp [silB] at hs; done))
 ·unfold xMove at hx
  obtain ⟨u,_,k⟩:=ob_some hx; cases k; rfl
 ·unfold xMove at hx
  obtain ⟨u,_,k⟩:=ob_some hx; cases k; rfl
 ·unfold xPick at hx
  split at hx
  ·obtain ⟨u,_,k⟩:=ob_some hx; cases k; rfl
  ·obtain ⟨u,_,k⟩:=ob_some hx; cases k; rfl
  ·cases hx
 ·unfold xBuild at hx
  obtain ⟨ti,_,k2⟩:=ob_some hx
  cases hk:Nat.beq ti.kind 3<;>simp only [hk,cond_true,cond_false] at k2
  ·cases hk2:Nat.beq ti.kind 2<;>simp only [hk2,cond_true,cond_false,reduceCtorEq] at k2
   obtain ⟨_,_,k4⟩:=ob_some k2
   obtain ⟨_,_,k6⟩:=ob_some k4
   obtain ⟨_,_,k8⟩:=ob_some k6
   cases k8; rfl
  ·obtain ⟨_,_,k6⟩:=ob_some k2
   obtain ⟨_,_,k8⟩:=ob_some k6
   cases k8; rfl
 ·unfold xLoad at hx
  split at hx
  ·obtain ⟨ti,_,k2⟩:=ob_some hx
   cases hk:ti.agg<;>simp only [hk,cond_true,cond_false] at k2
   ·split at k2
    ·cases k2; rfl
    ·cases k2
   ·obtain ⟨_,_,k8⟩:=ob_some k2
    cases k8; rfl
  ·cases hx
 ·unfold xNil at hx
  split at hx
  ·cases hx; rfl
  ·cases hx; rfl
  ·cases hx
 ·unfold xBin at hx
  split at hx
  ·rename_i p q _ _
   split at hx
   ·cases hx; rfl
   unfold xBinEq at hx
   cases hb:(plainA p&&plainA q)<;>simp only [hb,cond_true,cond_false] at hx
   ·obtain ⟨ti,_,k2⟩:=ob_some hx
    cases hk:nilKind ti.kind p<;>simp only [hk,cond_true,cond_false,reduceCtorEq] at k2
    split at k2
    ·obtain ⟨_,_,k8⟩:=ob_some k2; cases k8; rfl
    ·obtain ⟨_,_,k8⟩:=ob_some k2; cases k8; rfl
    ·cases k2
   ·exact plain hx
  ·cases hx
 ·unfold xUn at hx
  split at hx
  ·cases hx; rfl
  ·exact plain hx
 ·unfold xConv at hx
  split at hx
  ·rename_i s hop
   obtain ⟨ti,k1,k2⟩:=ob_some hx
   cases hq:Nat.beq ti.kind 1<;>simp only [hq,cond_true,cond_false] at k2
   ·exact plain k2
   ·obtain ⟨ei,k3,k4⟩:=ob_some k2
    obtain ⟨si,k5,k6⟩:=ob_some k4
    cases hq2:(Nat.beq ei.kind 6&&Nat.beq ei.size 1)<;>simp only [hq2,cond_true,cond_false,reduceCtorEq] at k6
    unfold xStrB at k6
    cases hq3:(Nat.beq nm h.nxt&&Nat.ble s.size 1000000)<;>simp only [hq3,cond_true,cond_false,reduceCtorEq] at k6
    simp only [Bool.and_eq_true] at hq3
    have:=Nat.eq_of_beq_eq_true hq3.1
    omega
  ·obtain ⟨ti,_,k2⟩:=ob_some hx
   obtain ⟨si,_,k4⟩:=ob_some k2
   obtain ⟨ei,_,k6⟩:=ob_some k4
   cases hq:(Nat.beq ti.kind 4&&Nat.beq si.kind 1&&Nat.beq ei.kind 6)<;>simp only [hq,cond_true,cond_false,reduceCtorEq] at k6
   obtain ⟨_,_,k8⟩:=ob_some k6
   obtain ⟨_,_,k9⟩:=ob_some k8
   cases k9; rfl
  ·exact plain hx
  ·cases hx
 ·unfold xMkF at hx
  split at hx
  ·rename_i g vs us h1 h2
   cases hq:(vs.all capOk&&us.all capOk)<;>simp only [hq,cond_true,cond_false,reduceCtorEq] at hx
   cases hx; rfl
  ·cases hx
 ·unfold xSlc at hx
  split at hx
  ·obtain ⟨ti,_,k2⟩:=ob_some hx
   obtain ⟨ei,_,k4⟩:=ob_some k2
   cases hk:Nat.beq ti.kind 1<;>simp only [hk,cond_true,cond_false,reduceCtorEq] at k4
   split at k4
   ·obtain ⟨_,_,k8⟩:=ob_some k4; cases k8; rfl
   ·cases k4
  ·exact plain hx
  ·cases hx
 ·unfold xField at hx
  split at hx
  ·rename_i ad _
   obtain ⟨ti,_,k2⟩:=ob_some hx
   obtain ⟨fl,_,k4⟩:=ob_some k2
   cases hq:(Nat.beq ti.kind 3&&!(Nat.beq fl.2 0)&&ad.spot.isNone)<;>simp only [hq,cond_true,cond_false,reduceCtorEq] at k4
   cases k4; rfl
  ·cases hx
 ·unfold xIdx at hx
  split at hx
  ·rename_i ad len _ _ i _ _
   obtain ⟨ti,_,k2⟩:=ob_some hx
   obtain ⟨ei,_,k4⟩:=ob_some k2
   cases hq:(Nat.beq ti.kind 1&&decide (0≤i)&&decide (i<len)&&ad.spot.isNone)<;>simp only [hq,cond_true,cond_false,reduceCtorEq] at k4
   cases k4; rfl
  ·rename_i ad _ i _ _
   obtain ⟨ti,_,k2⟩:=ob_some hx
   obtain ⟨ei,_,k4⟩:=ob_some k2
   cases hq:(Nat.beq ti.kind 2&&decide (0≤i)&&decide (i<ti.alen)&&ad.spot.isNone)<;>simp only [hq,cond_true,cond_false,reduceCtorEq] at k4
   cases k4; rfl
  ·cases hx
 ·exact plain hx
 ·unfold xExtract at hx
  split at hx
  ·obtain ⟨_,_,k8⟩:=ob_some hx; cases k8; rfl
  ·cases hx
 ·have lm:∀ {mt es k ok},xLookM E h mt es k ok=some (v,h')→h'=h:=by
   intro mt es k ok hm
   unfold xLookM at hm
   cases hg:keyGood E.P es.isEmpty mt.alen k<;>simp only [hg,cond_true,cond_false,reduceCtorEq] at hm
   split at hm
   ·rename_i u _
    cases hq:isTup u<;>simp only [hq,cond_true,cond_false,reduceCtorEq] at hm
    cases hm; rfl
   ·split at hm
    ·rename_i z _
     cases hq:plainA z<;>simp only [hq,cond_true,cond_false,reduceCtorEq] at hm
     cases hm; rfl
    ·cases hm
   ·cases hm
  unfold xLook at hx
  split at hx
  ·obtain ⟨mt,_,k2⟩:=ob_some hx
   cases hq:Nat.beq mt.kind 10<;>simp only [hq,cond_true,cond_false,reduceCtorEq] at k2
   exact lm k2
  ·obtain ⟨mt,_,k2⟩:=ob_some hx
   cases hq:Nat.beq mt.kind 10<;>simp only [hq,cond_true,cond_false,reduceCtorEq] at k2
   obtain ⟨es,_,k4⟩:=ob_some k2
   exact lm k4
  ·cases hx
 ·unfold xCall at hx
  rename_i c
  rw [ho] at hs
  simp only [silB] at hs
  split at hx
  ·rename_i hc; rw [hc] at hs; simp at hs
  ·rename_i b hc
   rw [hc] at hs
   simp only at hs
   unfold xCallB at hx
   split at hx
   ·rename_i vs _
    split at hx
    ·rename_i r hb
     have hx:=hb.trans hx
     clear hb
     unfold xbuiltin at hx
     split at hx
     ·split at hx
      ·obtain ⟨ti,_,k2⟩:=ob_some hx
       cases hk:Nat.beq ti.kind 1<;>simp only [hk,cond_true,cond_false,reduceCtorEq] at k2
       cases k2; rfl
      ·cases hx
     ·split at hx
      ·obtain ⟨ti,_,k2⟩:=ob_some hx
       simp only [Bool.cond_eq_ite] at k2
       split at k2
       ·cases k2; rfl
       ·cases k2
      ·cases hx
     ·simp [plainB] at hs
     ·simp [plainB] at hs
     ·split at hx
      ·obtain ⟨ti,_,k2⟩:=ob_some hx
       cases hk:Nat.beq ti.kind 4<;>simp only [hk,cond_true,cond_false,reduceCtorEq] at k2
       cases k2; rfl
      ·cases hx
     ·cases hx; rfl
     ·cases hx; rfl
     ·cases hx
    ·cases hq:(allPlain vs&&plainB b)<;>simp only [hq,cond_true,cond_false,reduceCtorEq] at hx
     exact plain hx
   ·cases hx
  ·cases hx
 ·cases hx
theorem all_any {E:Env} {call:Nat→List Value→Hp→Option (Value × Hp)} {nm:Nat} {o:Oper} {T:Tm} {h h':Hp} {v:Value} (hs:allB o.op=true) (hx:xop E call nm o T h=some (v,h')) :
 ∃ ent,h'=halloc h nm ent∧∀ H,xop E call nm o T H=some (v,halloc H nm ent):=by
 cases ho:o.op<;>rw [ho] at hs<;>simp only [allB,Bool.false_eq_true] at hs
 case alloc t =>
  simp only [xop,xopR,xAlloc,ho] at hx ⊢
  obtain ⟨ti,k1,k2⟩:=ob_some hx
  cases k2
  exact ⟨_,rfl,fun H=>by simp [k1,ob]⟩
 case box t x =>
  simp only [xop,xopR,xBox,ho] at hx ⊢
  obtain ⟨u,k1,k2⟩:=ob_some hx
  obtain ⟨cs,k3,k4⟩:=ob_some k2
  cases k4
  exact ⟨_,rfl,fun H=>by simp [k1,k3,ob]⟩
 case buildSlice t len parts =>
  simp only [xop,xopR,xBuildSlice,ho] at hx ⊢
  obtain ⟨ti,k1,k2⟩:=ob_some hx
  obtain ⟨ei,k3,k4⟩:=ob_some k2
  cases hq:(Nat.beq ti.kind 1&&Nat.ble (len*ei.size) 16777216&&Nat.ble len 16777216&&Nat.beq ei.zero.length ei.size)<;>simp only [hq,cond_true,cond_false,reduceCtorEq] at k4
  obtain ⟨ps,k5,k6⟩:=ob_some k4
  obtain ⟨cs,k7,k8⟩:=ob_some k6
  cases k8
  refine ⟨_,rfl,fun H=>?_⟩
  rw [k1]
  simp only [ob]
  rw [k3]
  simp only [hq,cond_true]
  rw [k5]
  simp only
  rw [k7]
 case makeSlice t l c =>
  simp only [xop,xopR,xMake,ho] at hx ⊢
  split at hx
  ·rename_i k1 n k2 k hl hc
   obtain ⟨ti,j1,j2⟩:=ob_some hx
   obtain ⟨ei,j3,j4⟩:=ob_some j2
   cases hq:(Nat.beq ti.kind 1&&decide (0≤n)&&decide (n≤k)&&decide (k≤1000000)&&Nat.ble ei.bytes 1000000&&Nat.beq ei.zero.length ei.size)<;>simp only [hq,cond_true,cond_false,reduceCtorEq] at j4
   cases j4
   refine ⟨_,rfl,fun H=>?_⟩
   rw [j1]
   simp only [ob]
   rw [j3]
   simp only [hq,cond_true]
  ·cases hx
end Go.Ev
set_option linter.unusedVariables false
set_option linter.unusedSimpArgs false
namespace Go.Ev
open Go.Deep Go.RowKit
structure Merge (θ θ':Th) (h1 hh hh' H':Hp):Prop where
 sub:∀ n e x,tget hh.m n=some e→θ n=some x→tget h1.m n=some e
 nxt:H'.nxt=hh'.nxt
 each:∀ n e x,tget H'.m n=some e→θ' n=some x→tget hh'.m n=some e∨(tget hh.m n=none∧tget h1.m n=some e∧θ n=some x)
theorem merge_HR [LG] {nm:Nat} {θ θ':Th} {h1 hh hh' H':Hp} {w w':World} (hr:HR θ h1 w) (m:Merge θ θ' h1 hh hh' H') (e:Ext nm θ hh w θ' hh' w') (hr':HR θ' hh' w'):HR θ' H' w':=by
 have kept:∀ n en x,tget hh.m n=none→tget h1.m n=some en→θ n=some x→w'.heap[x.1]? = w.heap[x.1]?:=by
  intro n en x h0 h2 h3
  refine e.frame x.1 (hr.ent n en x h2 h3).lt fun k ek y h4 _ h5 h6=>?_
  have hne:n≠k:=fun e1=>by subst e1; rw [h0] at h4; cases h4
  exact hr.sep n k en ek x y h2 (m.sub k ek y h4 h5) hne h3 h5 h6.symm
 refine ⟨fun n en x h2 h3=>?_,fun n k en ek x y h2 h3 hne h4 h5=>?_,fun n hn=>hr'.fresh n (by rw [← m.nxt]; exact hn)⟩
 ·rcases m.each n en x h2 h3 with h4 | ⟨h4,h5,h6⟩
  ·exact hr'.ent n en x h4 h3
  ·have r:=hr.ent n en x h5 h6
   have hk:=kept n en x h4 h5 h6
   refine ⟨h3,Nat.lt_of_lt_of_le r.lt e.size,fun i v hi=>?_,fun o ho=>(by rw [hk]; exact ObR_mono e.keep (r.ob o ho)),fun hu=>?_⟩
   ·obtain ⟨⟨u,q1,q2⟩,q3⟩:=r.cell i v hi
    rw [World.cell?_of_block (w:=w) hk,World.frozen?_of_block (w:=w) hk]
    exact ⟨⟨u,q1,S_mono e.keep q2⟩,q3⟩
   ·obtain ⟨q1,q2⟩:=r.room hu
    refine ⟨q1,fun i hi=>?_⟩
    rw [World.cell?_of_block (w:=w) hk,World.frozen?_of_block (w:=w) hk]
    exact q2 i hi
 ·have cross:∀ n k en ek x y,tget hh.m n=none→tget h1.m n=some en→θ n=some x→tget hh'.m k=some ek→θ' k=some y→x.1≠y.1:=by
   intro n k en ek x y g1 g2 g3 g4 g5 g6
   rcases e.own k ek y g4 g5 with g7 | ⟨j,ej,z,g7,g8,g9⟩
   ·have:=(hr.ent n en x g2 g3).lt
    omega
   ·have hnj:n≠j:=fun e1=>by subst e1; rw [g1] at g7; cases g7
    exact hr.sep n j en ej x z g2 (m.sub j ej z g7 g8) hnj g3 g8 (g6.trans g9.symm)
  rcases m.each n en x h2 h4 with g | ⟨g1,g2,g3⟩<;>rcases m.each k ek y h3 h5 with f | ⟨f1,f2,f3⟩
  ·exact hr'.sep n k en ek x y g f hne h4 h5
  ·exact (cross k n ek en y x f1 f2 f3 g h4).symm
  ·exact cross n k en ek x y g1 g2 g3 f h5
  ·exact hr.sep n k en ek x y g2 f2 hne g3 f3
theorem merge_Ext {nm base:Nat} {θ0 θ θ':Th} {h0 h1 hh hh' H':Hp} {w0 w w':World} (b:Ext base θ0 h0 w0 θ h1 w) (m:Merge θ θ' h1 hh hh' H') (e:Ext nm θ hh w θ' hh' w') (hb:h0.nxt≤nm) (hn:h0.nxt≤hh.nxt) (hn':h0.nxt≤H'.nxt):Ext base θ0 h0 w0 θ' H' w' where
 keep n x q:=e.keep n x (b.keep n x q)
 only n q1 q2:=by rw [e.only n (by omega) (by omega),b.only n q1 q2]
 nxt:=hn'
 size:=Nat.le_trans b.size e.size
 tape:=e.tape.trans b.tape
 os:=e.os.trans b.os
 output:=e.output.trans b.output
 frame k hk hno:=by
  rw [e.frame k (Nat.lt_of_lt_of_le hk b.size) ?_,b.frame k hk hno]
  intro n en x q1 qu q2 q3
  rcases b.ownw n en x (m.sub n en x q1 q2) qu q2 with q4 | ⟨j,ej,y,q4,qj,q5,q6⟩
  ·omega
  ·exact hno j ej y q4 qj q5 (q6.trans q3)
 ownw n en x q1 qu q2:=by
  rcases m.each n en x q1 q2 with q3 | ⟨q3,q4,q5⟩
  ·rcases e.ownw n en x q3 qu q2 with q6 | ⟨j,ej,y,q6,qj,q7,q8⟩
   ·exact .inl (Nat.le_trans b.size q6)
   ·rcases b.ownw j ej y (m.sub j ej y q6 q7) qj q7 with q9 | ⟨i,ei,z,q9,qi,q10,q11⟩
    ·exact .inl (q8 ▸ q9)
    ·exact .inr ⟨i,ei,z,q9,qi,q10,q11.trans q8⟩
  ·exact b.ownw n en x q4 qu q5
 own n en x q1 q2:=by
  rcases m.each n en x q1 q2 with q3 | ⟨q3,q4,q5⟩
  ·rcases e.own n en x q3 q2 with q6 | ⟨j,ej,y,q6,q7,q8⟩
   ·exact .inl (Nat.le_trans b.size q6)
   ·rcases b.own j ej y (m.sub j ej y q6 q7) q7 with q9 | ⟨i,ei,z,q9,q10,q11⟩
    ·exact .inl (q8 ▸ q9)
    ·exact .inr ⟨i,ei,z,q9,q10,q11.trans q8⟩
  ·exact b.own n en x q4 q5
section
variable {ops : Array Oper} {A : List (List Nat)}
def Lst (listed:Array Bool) (i:Nat):Prop:=listed.getD i false=true
def Down (ops:Array Oper) (listed:Array Bool):Prop:=∀ i o,ops[i]? = some o→Lst listed i→∀ e∈o.after,Region.binds .any e=true→Lst listed e.on
theorem anc_down {listed:Array Bool} (hA:∀ i,i<ops.size→ancOk ops A i=true) (hd:Down ops listed) :
 ∀ (k i:Nat),i<k→i<ops.size→(∀ o,ops[i]? = some o→∀ e∈o.after,Region.binds .any e=true→Lst listed e.on)→∀ j,j∈ancOf A i→Lst listed j
 | 0,i,h,_,_,_,_=>by omega
 | k+1,i,h,hi,hdir,j,hj=>by
   have h1:=hA i hi
   unfold ancOk at h1
   have ho:ops[i]? = some ops[i]:=Array.getElem?_eq_getElem hi
   rw [ho] at h1
   simp only [Bool.and_eq_true] at h1
   obtain ⟨h2,h3⟩:=h1
   rw [List.all_eq_true] at h2 h3
   have h4:=h3 j hj
   rw [List.any_eq_true] at h4
   obtain ⟨e,he,h5⟩:=h4
   simp only [Bool.and_eq_true,Bool.or_eq_true] at h5
   have hem:e∈ops[i].after:=by simpa using he
   have hL:=hdir _ ho e hem h5.1
   rcases h5.2 with h6 | h6
   ·rw [Nat.eq_of_beq_eq_true h6]; exact hL
   ·have h7:=h2 e he
    rw [h5.1] at h7
    simp only [Bool.not_true,Bool.false_or] at h7
    unfold Nat.blt at h7
    have hlt:e.on<i:=Nat.le_of_ble_eq_true h7
    exact anc_down hA hd k e.on (by omega) (by omega) (fun o' ho' e' he' hb'=>hd e.on o' ho' hL e' he' hb') j (memN_iff.1 h6)
theorem lst_of_anc {listed:Array Bool} (hA:∀ i,i<ops.size→ancOk ops A i=true) (hd:Down ops listed) {i:Nat} (hi:i<ops.size) (hL:Lst listed i) {j:Nat} (hj:j∈ancOf A i):Lst listed j :=
 anc_down hA hd (i+1) i (by omega) hi (fun o ho e he hb=>hd i o ho hL e he hb) j hj
theorem mem_ready' {listed:Array Bool} (hs:listed.size=ops.size) {i:Nat} (h:i∈Region.ready .any ops listed) :
 i<ops.size∧¬ Lst listed i∧∀ o,ops[i]? = some o→∀ e∈o.after,Region.binds .any e=true→Lst listed e.on:=by
 unfold Region.ready at h
 rw [List.mem_filter] at h
 obtain ⟨h1,h2⟩:=h
 have hi:i<ops.size:=by simpa using h1
 simp only [Bool.and_eq_true,Bool.not_eq_true'] at h2
 have ho:ops[i]? = some ops[i]:=Array.getElem?_eq_getElem hi
 refine ⟨hi,?_,?_⟩
 ·have h3:=h2.1
  unfold Lst
  have hl:i<listed.size:=by omega
  simp only [Array.getD_eq_getD_getElem?,Array.getElem?_eq_getElem hl,Option.getD_some] at h3 ⊢
  simp [h3]
 ·intro o ho' e he hb
  have h3:=h2.2
  rw [ho'] at h3
  simp only [Option.map_some,Option.getD_some] at h3
  rw [Array.all_eq_true'] at h3
  have h4:=h3 e he
  rw [hb] at h4
  simpa [Lst] using h4
theorem all_done {listed:Array Bool} (hA:∀ i,i<ops.size→ancOk ops A i=true) (hs:listed.size=ops.size) (hr:Region.ready .any ops listed=[]):∀ (k i:Nat),i<k→i<ops.size→Lst listed i
 | 0,i,h,_=>by omega
 | k+1,i,h,hi=>by
   have ih:=all_done hA hs hr k
   have ho:ops[i]? = some ops[i]:=Array.getElem?_eq_getElem hi
   have hl:i<listed.size:=by omega
   unfold Lst
   cases hb:listed.getD i false with
   | true=>rfl
   | false =>
     exfalso
     have:i∈Region.ready .any ops listed:=by
      unfold Region.ready
      rw [List.mem_filter]
      refine ⟨by simpa using hi,?_⟩
      simp only [Bool.and_eq_true,Bool.not_eq_true']
      refine ⟨?_,?_⟩
      ·simp only [Array.getD_eq_getD_getElem?,Array.getElem?_eq_getElem hl,Option.getD_some] at hb ⊢
       exact hb
      ·rw [ho]
       simp only [Option.map_some,Option.getD_some]
       rw [Array.all_eq_true']
       intro e he
       cases hbe:Region.binds .any e with
       | false=>rfl
       | true =>
         simp only [Bool.not_true,Bool.false_or]
         have h1:=hA i hi
         unfold ancOk at h1
         rw [ho] at h1
         simp only [Bool.and_eq_true] at h1
         have h2:=h1.1
         rw [List.all_eq_true] at h2
         have h7:=h2 e (by simpa using he)
         rw [hbe] at h7
         simp only [Bool.not_true,Bool.false_or] at h7
         unfold Nat.blt at h7
         have hlt:e.on<i:=Nat.le_of_ble_eq_true h7
         exact ih e.on (by omega) (by omega)
     rw [hr] at this
     cases this
end
theorem writesAt_iff {ops:Array Oper} {j t:Nat}:writesAt ops j t=true↔∃ o,ops[j]? = some o∧o.dst=some t:=by
 unfold writesAt
 cases h:ops[j]? with
 | none=>simp
 | some o =>
   simp only [Option.some.injEq,exists_eq_left']
   cases hd:o.dst with
   | none=>simp
   | some d =>
     simp only [Option.some.injEq]
     exact ⟨Nat.eq_of_beq_eq_true,fun e=>by rw [e]; simp⟩
end Go.Ev
set_option linter.unusedVariables false
set_option linter.unusedSimpArgs false
namespace Go.Ev
open Go.Deep Go.RowKit
def noCall:Nat→List Value→Hp→Option (Value × Hp):=fun _ _ _=>none
theorem noCall_at [LG] (P:Program) (nm:Nat) (h:Hp):CallAt P noCall nm h:=fun _ _ _ _ hx=>by cases hx
theorem tputD_ne {T:Tm} {dst:Option Tmp} {v:Value} {t:Nat} (h:dst≠some t):tget (tputD T dst v) t=tget T t:=by
 cases dst with
 | none=>rfl
 | some d=>exact tget_tset_ne _ _ _ _ (fun e=>h (by rw [e]))
theorem tputD_same {T:Tm} {d:Nat} {v:Value}:tget (tputD T (some d) v) d=some v:=tget_tset_same _ _ _
theorem writes_false {ops:Array Oper} {i t:Nat} {o:Oper} (ho:ops[i]? = some o) (h:writesAt ops i t=false):o.dst≠some t:=fun e=>by
 have:=writesAt_iff.2 ⟨o,ho,e⟩
 rw [h] at this
 cases this
section
variable {E : Env} {ops : Array Oper} {A : List (List Nat)} {base : Nat}
structure PreR (E:Env) (ops:Array Oper) (base:Nat) (l:List Nat) (T:Tm) (h:Hp) (T1:Tm) (h1:Hp):Prop where
 keepT:∀ t,(∀ i∈l,writesAt ops i t=false)→tget T1 t=tget T t
 sub:∀ n e,tget h.m n=some e→tget h1.m n=some e
 new:∀ n e,tget h1.m n=some e→tget h.m n=none→∃ i∈l,n=base+i
 nxt:h1.nxt=h.nxt
theorem halloc_nxt {h:Hp} {nm:Nat} {e:Ent} (hn:nm<h.nxt):(halloc h nm e).nxt=h.nxt:=by simp only [halloc]; omega
theorem one_heap {i:Nat} {o:Oper} {T:Tm} {h h':Hp} {v:Value} (hk:silB o.op=true∨allB o.op=true) (hf:tget h.m (base+i)=none) (hn:base+i<h.nxt) (hx:xop E noCall (base+i) o T h=some (v,h')) :
 (∀ n e,tget h.m n=some e→tget h'.m n=some e)∧(∀ n e,tget h'.m n=some e→tget h.m n=none→n=base+i)∧h'.nxt=h.nxt:=by
 rcases hk with hk | hk
 ·have:=sil_same hk hn hx
  subst this
  exact ⟨fun _ _ q=>q,fun n e q1 q2=>(by rw [q1] at q2; cases q2),rfl⟩
 ·obtain ⟨ent,rfl,_⟩:=all_any hk hx
  refine ⟨fun n e q=>?_,fun n e q1 q2=>?_,halloc_nxt hn⟩
  ·simp only [halloc]
   rw [tget_tset_ne _ _ _ _ (fun e1=>by subst e1; rw [hf] at q; cases q)]
   exact q
  ·by_cases e1:base+i=n
   ·exact e1.symm
   ·simp only [halloc] at q1
    rw [tget_tset_ne _ _ _ _ e1,q2] at q1
    cases q1
theorem preOk_cons {prev:Option Nat} {D:List Nat} {i:Nat} {l:List Nat} (h:preOk ops A prev D (i :: l)=true) :
 (opAt? ops silB i=true∨opAt? ops allB i=true)∧i∉D∧behind A prev i=true∧lookOk ops A D i=true∧preOk ops A prev (i :: D) l=true:=by
 simp only [preOk,Bool.and_eq_true,Bool.or_eq_true,Bool.not_eq_true'] at h
 exact ⟨h.1.1.1.1,fun hm=>(by have:=memN_iff.2 hm; rw [h.1.1.1.2] at this; cases this),h.1.1.2,h.1.2,h.2⟩
theorem opAt_some {p:Op→Bool} {i:Nat} (h:opAt? ops p i=true):∃ o,ops[i]? = some o∧p o.op=true:=by
 unfold opAt? at h
 split at h
 ·cases h
 ·rename_i o ho; exact ⟨o,ho,h⟩
theorem lt_of_get {i:Nat} {o:Oper} (h:ops[i]? = some o):i<ops.size:=by
 rcases Nat.lt_or_ge i ops.size with g | g
 ·exact g
 ·rw [Array.getElem?_eq_none g] at h; cases h
theorem pre_R {prev:Option Nat}:∀ {l D:List Nat} {T T1:Tm} {h h1:Hp},preOk ops A prev D l=true→base+ops.size≤h.nxt→xpre E ops base l T h=some (T1,h1)→PreR E ops base l T h T1 h1
 | [],D,T,T1,h,h1,_,_,hx=>by
   cases hx
   exact ⟨fun _ _=>rfl,fun _ _ q=>q,fun n e q1 q2=>(by rw [q1] at q2; cases q2),rfl⟩
 | i :: l,D,T,T1,h,h1,hp,hn,hx=>by
   obtain ⟨hk,hi,_,_,hp'⟩:=preOk_cons hp
   simp only [xpre] at hx
   split at hx
   ·rename_i o ho hf
    have hlt:=lt_of_get ho
    have hk':silB o.op=true∨allB o.op=true:=by
     rcases hk with hk | hk
     ·obtain ⟨o',ho',q⟩:=opAt_some hk; rw [ho] at ho'; cases ho'; exact .inl q
     ·obtain ⟨o',ho',q⟩:=opAt_some hk; rw [ho] at ho'; cases ho'; exact .inr q
    split at hx
    ·split at hx
     ·rename_i v h2 hop
      obtain ⟨g1,g2,g3⟩:=one_heap hk' hf (by omega) hop
      have ih:=pre_R hp' (by omega) hx
      refine ⟨fun t ht=>?_,fun n e q=>ih.sub n e (g1 n e q),fun n e q1 q2=>?_,by rw [ih.nxt,g3]⟩
      ·rw [ih.keepT t (fun j hj=>ht j (by simp [hj])),tputD_ne (writes_false ho (ht i (by simp)))]
      ·cases hc:tget h2.m n with
       | none=>obtain ⟨j,hj,e1⟩:=ih.new n e q1 hc; exact ⟨j,by simp [hj],e1⟩
       | some e'=>exact ⟨i,by simp,g2 n e' hc q2⟩
     ·cases hx
    ·have ih:=pre_R hp' hn hx
     refine ⟨fun t ht=>?_,ih.sub,fun n e q1 q2=>?_,ih.nxt⟩
     ·rw [ih.keepT t (fun j hj=>ht j (by simp [hj])),tputD_ne (writes_false ho (ht i (by simp)))]
     ·obtain ⟨j,hj,e1⟩:=ih.new n e q1 q2; exact ⟨j,by simp [hj],e1⟩
    ·cases hx
   ·cases hx
theorem pair_dst (hP:∀ i j,i<ops.size→j<ops.size→pairOk ops A i j=true) {i j t:Nat} (h1:writesAt ops i t=true) (h2:writesAt ops j t=true):i=j:=by
 obtain ⟨o,ho,hd⟩:=writesAt_iff.1 h1
 obtain ⟨o2,ho2,hd2⟩:=writesAt_iff.1 h2
 have hp:=hP i j (lt_of_get ho) (lt_of_get ho2)
 unfold pairOk at hp
 rw [ho] at hp
 simp only [Bool.or_eq_true,Bool.and_eq_true] at hp
 rcases hp with hp | hp
 ·exact Nat.eq_of_beq_eq_true hp
 ·have:=hp.2
  rw [hd] at this
  simp only [Bool.not_eq_true'] at this
  rw [h2] at this
  cases this
theorem pair_look (hP:∀ i j,i<ops.size→j<ops.size→pairOk ops A i j=true) {i j t:Nat} {o:Oper} (ho:ops[i]? = some o) (hne:i≠j) (ht:t∈o.looksAt ops) (h2:writesAt ops j t=true):j∈ancOf A i∨i∈ancOf A j:=by
 obtain ⟨o2,ho2,hd2⟩:=writesAt_iff.1 h2
 have hp:=hP i j (lt_of_get ho) (lt_of_get ho2)
 unfold pairOk at hp
 rw [ho] at hp
 simp only [Bool.or_eq_true,Bool.and_eq_true] at hp
 rcases hp with hp | hp
 ·exact absurd (Nat.eq_of_beq_eq_true hp) hne
 ·have:=hp.1
  rw [List.all_eq_true] at this
  have h3:=this t ht
  rw [h2] at h3
  simp only [Bool.not_true,Bool.false_or,Bool.or_eq_true] at h3
  exact h3.imp memN_iff.1 memN_iff.1
theorem lookOk_spec {D:List Nat} {i:Nat} {o:Oper} (ho:ops[i]? = some o) (h:lookOk ops A D i=true):(∀ j∈ancOf A i,j∈D)∧(∀ t∈o.looksAt ops,∀ j∈D,writesAt ops j t=true→j∈ancOf A i):=by
 unfold lookOk at h
 rw [ho] at h
 simp only [Bool.and_eq_true] at h
 refine ⟨fun j hj=>subN_mem h.1.1 hj,fun t ht j hj hw=>?_⟩
 have:=h.2
 rw [List.all_eq_true] at this
 have h2:=this t ht
 rw [List.all_eq_true] at h2
 have h3:=h2 j hj
 rw [hw] at h3
 simp only [Bool.not_true,Bool.false_or] at h3
 exact memN_iff.1 h3
theorem pre_T:∀ {l:List Nat} {T T1:Tm} {h h1:Hp},xpre E ops base l T h=some (T1,h1)→∀ t,(∀ i∈l,writesAt ops i t=false)→tget T1 t=tget T t
 | [],T,T1,h,h1,hx,t,_=>by cases hx; rfl
 | i :: l,T,T1,h,h1,hx,t,ht=>by
   simp only [xpre] at hx
   split at hx
   ·rename_i o ho hf
    split at hx
    ·split at hx
     ·rw [pre_T hx t (fun j hj=>ht j (by simp [hj])),tputD_ne (writes_false ho (ht i (by simp)))]
     ·cases hx
    ·rw [pre_T hx t (fun j hj=>ht j (by simp [hj])),tputD_ne (writes_false ho (ht i (by simp)))]
    ·cases hx
   ·cases hx
theorem preOk_new {prev:Option Nat}:∀ {l D:List Nat},preOk ops A prev D l=true→∀ i∈l,i∉D
 | [],_,_,i,hi=>by cases hi
 | k :: l,D,h,i,hi=>by
   obtain ⟨_,h2,_,_,h5⟩:=preOk_cons h
   rcases List.mem_cons.1 hi with rfl | hi
   ·exact h2
   ·intro hm
    exact preOk_new h5 i hi (by simp [hm])
theorem stOk_cons {D:List Nat} {prev:Option Nat} {s:Stage} {l:List Stage} (h:stOk ops A D prev (s :: l)=true) :
 coverOk ops A prev D s.re=true∧reOk ops A D s.re=true∧preOk ops A prev D s.pre=true∧
 ((s.loud=none∧l=[]∧∀ i,i<ops.size→i∈s.pre.reverse++D)∨
  (∃ c o,s.loud=some c∧ops[c]? = some o∧(∀ i∈s.hide,i<ops.size)∧c∉s.pre.reverse++D∧behind A prev c=true∧lookOk ops A (s.pre.reverse++D) c=true∧
    (∀ i∈s.pre.reverse++D,opAt? ops allB i=true→i∈s.hide∨i∈ancOf A c)∧(∀ i,i<ops.size→i∈s.pre.reverse++D∨i=c∨c∈ancOf A i)∧stOk ops A (c :: (s.pre.reverse++D)) (some c) l=true)):=by
 simp only [stOk,Bool.and_eq_true] at h
 obtain ⟨⟨⟨h1,h2⟩,h3⟩,h4⟩:=h
 refine ⟨h1,h2,h3,?_⟩
 cases hl:s.loud with
 | none =>
   rw [hl] at h4
   simp only [Bool.and_eq_true,List.all_eq_true,List.isEmpty_iff] at h4
   exact .inl ⟨rfl,h4.2,fun i hi=>memN_iff.1 (h4.1 i (by simpa using hi))⟩
 | some c =>
   rw [hl] at h4
   simp only [Bool.and_eq_true,List.all_eq_true,Bool.or_eq_true,Bool.not_eq_true'] at h4
   obtain ⟨⟨⟨⟨⟨⟨⟨k1,k0⟩,k2⟩,k3⟩,k4⟩,k5⟩,k6⟩,k7⟩:=h4
   cases ho:ops[c]? with
   | none=>rw [ho] at k1; cases k1
   | some o =>
     refine .inr ⟨c,o,rfl,ho,fun i hi=>(by have:=k0 i hi; unfold Nat.blt at this; exact Nat.le_of_ble_eq_true this),fun hm=>(by have:=memN_iff.2 hm; rw [k2] at this; cases this),k3,k4,fun i hi ha=>?_,fun i hi=>?_,k7⟩
     ·rcases k5 i hi with (q | q) | q
      ·rw [ha] at q; cases q
      ·exact .inl (memN_iff.1 q)
      ·exact .inr (memN_iff.1 q)
     ·rcases k6 i (by simpa using hi) with (q | q) | q
      ·exact .inl (memN_iff.1 q)
      ·exact .inr (.inl (Nat.eq_of_beq_eq_true q))
      ·exact .inr (.inr (memN_iff.1 q))
theorem stages_T (hP:∀ i j,i<ops.size→j<ops.size→pairOk ops A i j=true) {call:Nat→List Value→Hp→Option (Value × Hp)} :
 ∀ {st:List Stage} {D:List Nat} {prev:Option Nat} {T Tf:Tm} {h hf:Hp},stOk ops A D prev st=true→xstages E call ops base st T h=some (Tf,hf)→∀ t j,j∈D→writesAt ops j t=true→tget Tf t=tget T t
 | [],D,prev,T,Tf,h,hf,hs,hx,t,j,hj,hw=>by simp [stOk] at hs
 | s :: l,D,prev,T,Tf,h,hf,hs,hx,t,j,hj,hw=>by
   obtain ⟨h1,h2,h3,h4⟩:=stOk_cons hs
   have hpre:∀ i∈s.pre,writesAt ops i t=false:=fun i hi=>by
    cases hq:writesAt ops i t with
    | false=>rfl
    | true =>
      have:=pair_dst hP hq hw
      subst this
      exact absurd hj (preOk_new h3 i hi)
   simp only [xstages] at hx
   cases hre:xre E ops base T h s.re<;>simp only [hre,cond_true,cond_false,reduceCtorEq] at hx
   split at hx
   ·cases hx
   ·rename_i T1 h1' hp
    have hT1:=pre_T hp t hpre
    rcases h4 with ⟨e1,e2,_⟩ | ⟨c,o,e1,ho,_,hc,_,_,_,_,hst⟩
    ·rw [e1] at hx
     subst e2
     simp only at hx
     cases hx
     exact hT1
    ·rw [e1] at hx
     simp only [ho] at hx
     have hcw:o.dst≠some t:=fun e=>by
      have hq:=writesAt_iff.2 ⟨o,ho,e⟩
      have:=pair_dst hP hq hw
      subst this
      exact hc (by simp [hj])
     have hjD:j∈c :: (s.pre.reverse++D):=by simp [hj]
     split at hx
     ·split at hx
      ·rw [stages_T hP hst hx t j hjD hw,tputD_ne hcw,hT1]
      ·cases hx
     ·rw [stages_T hP hst hx t j hjD hw,tputD_ne hcw,hT1]
     ·cases hx
end
end Go.Ev
