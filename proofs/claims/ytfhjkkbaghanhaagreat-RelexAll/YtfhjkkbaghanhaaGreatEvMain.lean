import Derived.Test.YtfhjkkbaghanhaaGreatEvDraw1
import Derived.RangeFuncLeaves
set_option linter.unusedVariables false
set_option linter.unusedSimpArgs false
namespace Go.Ev
open Go.Deep Go.RowKit
def Splices (P:Program) (g:Nat):Prop:=∀ (s:ByteArray) (a n:Int) (p:ByteArray) (w:World),splB s a n p=true->(callFunc g #[.string s,.agg #[.int .i64 a,.int .i64 n,.string p]]).run P w = .ok (.enter g #[.string s,.agg #[.int .i64 a,.int .i64 n,.string p]]) w/\
 Calls P g #[.string s,.agg #[.int .i64 a,.int .i64 n,.string p]] w fun e w'=>e = .returned (.string (splT s a.toNat n.toNat p))/\Below w.heap.size w w'
structure EnvOk (E:Env):Prop where
 tt:EnvT E
 mixed:E.P.follows .mixedOrders=true
 ff : ∀ g fn, tget E.ff g = some fn -> E.P.funcs[g]? = some fn /\ (fn.name == "runtime.NumGoroutine") = false /\ ∃ c, fn.body = some c /\ codeOk E g fn.ntmps c = true
 xx:∀ g,tget E.xx g=some 1->∀ a b w,(callFunc g #[.string a,.string b]).run E.P w = .ok (.value (.int .i64 (Extern.BytealgCompare.cmp a b))) w
 x3:∀ g,tget E.xx g=some 3->∀ s c w,(callFunc g #[.string s,.int .u8 c]).run E.P w = .ok (.value (.int .i64 (idxB s c))) w
 x4:∀ g,tget E.xx g=some 4->Splices E.P g
 x2:∀ g,tget E.xx g=some 2->∀ w,(callFunc g #[]).run E.P w = .ok (.enter g #[]) w/\Calls E.P g #[] w fun e w'=>e = .returned (.bool true)/\Below w.heap.size w w'
theorem HR.below [LG] {θ:Th} {h:Hp} {w w':World} (hr:HR θ h w) (hb:Below w.heap.size w w'):HR θ h w':=by
 refine ⟨fun n e x he hx=>?_,hr.sep,hr.fresh⟩
 have r:=hr.ent n e x he hx
 have hc:∀ i,w'.cell? ⟨x.1,i,none⟩=w.cell? ⟨x.1,i,none⟩:=fun i=>by unfold World.cell?; rw [hb.block x.1 r.lt]
 have hf:∀ i,w'.frozen? ⟨x.1,i,none⟩=w.frozen? ⟨x.1,i,none⟩:=fun i=>by unfold World.frozen?; rw [hb.block x.1 r.lt]
 refine ⟨r.at_,Nat.lt_of_lt_of_le r.lt hb.size,fun i v hv=>?_,fun o ho=>(by rw [hb.block x.1 r.lt]; exact r.ob o ho),fun hu=>?_⟩
 .rw [hc,hf]; exact r.cell i v hv
 .obtain ⟨h1,h2⟩:=r.room hu
  refine ⟨h1,fun i hi=>?_⟩
  rw [hc,hf]; exact h2 i hi
theorem Ext.below {nm:Nat} {θ:Th} {h:Hp} {w w':World} (hb:Below w.heap.size w w'):Ext nm θ h w θ h w' where
 keep _ _ e:=e
 only _ _ _:=rfl
 nxt:=Nat.le_refl _
 size:=hb.size
 tape:=hb.tape
 os:=hb.os
 output:=hb.output
 frame b hlt _:=hb.block b hlt
 ownw n e x h1 hu h2:=.inr ⟨n,e,x,h1,hu,h2,rfl⟩
 own n e x h1 h2:=.inr ⟨n,e,x,h1,h2,rfl⟩
theorem args0_get:∀ (l:List Value) (T:Tm) (i t:Nat),tget (args0 T i l) t=if i<=t/\t<i+l.length then l[t-i]? else tget T t
 | [],T,i,t=>by simp only [args0]; rw [if_neg (by simp)]
 | v :: l,T,i,t=>by
   simp only [args0,args0_get l,tget_tset,List.length_cons]
   by_cases h1:i+1<=t/\t<i+1+l.length
   .rw [if_pos h1,if_pos (by omega)]
    have:t-i=(t-(i+1))+1:=by omega
    rw [this,List.getElem?_cons_succ]
   .rw [if_neg h1]
    by_cases h2:i=t
    .subst h2; rw [if_pos rfl,if_pos (by omega)]; simp
    .rw [if_neg h2,if_neg (by omega)]
theorem args_TR {θ:Th} {args cargs:List Value} (h:all2 (W θ) args cargs) (k:Nat):TR θ (args0 .nil 0 args) { tmps:=cargs.toArray++Array.replicate k undef,defers:=[] }:=by
 refine ⟨fun t v hv=>?_⟩
 rw [args0_get] at hv
 split at hv
 .rename_i hlt
  simp only [Nat.sub_zero] at hv
  obtain ⟨u,h1,h2⟩:=all2_get h t v hv
  refine ⟨u,?_,h2⟩
  have hl:=all2_len h
  have:t<cargs.length:=by omega
  rw [Array.getElem?_append_left (by simpa using this)]
  simpa using h1
 .cases hv
theorem noTup_V {θ:Th}:∀ {vs us:List Value},noTup vs=true->all2 (W θ) vs us->all2 (V θ) vs us
 | [],[],_,_=>trivial
 | v :: vs,u :: us,hn,h=>by
   have hv:V θ v u/\noTup vs=true:=by
    cases v<;>first | exact ⟨h.1,hn⟩ | (simp [noTup] at hn; done)
   exact ⟨hv.1,noTup_V hv.2 h.2⟩
 | [],_ :: _,_,h=>h.elim
 | _ :: _,[],_,h=>h.elim
theorem res_sound [LG] {E:Env} (hE:EnvT E) {θ:Th} {T:Tm} {h:Hp} {w:World} {a:Act} (hr:HR θ h w) (ht:TR θ T a):∀ {rs:List ResultVar} {vs:List Value},resA (opv T) h E rs=some vs->
 ∃ us:List Value,(rs.mapM fun | .tmp t=>pure (a.tmps.getD t undef) | .cell x t=>do loadVar t (<- asAddr (a.tmps.getD x undef)):Sem (List Value)).run E.P w = .ok us w/\all2 (W θ) vs us
 | [],vs,hx=>by cases hx; exact ⟨[],by simp,trivial⟩
 | .tmp t :: l,vs,hx=>by
   simp only [resA] at hx
   split at hx
   .rename_i v r h1 h2
    cases hx
    obtain ⟨us,k1,k2⟩:=res_sound hE hr ht h2
    obtain ⟨u,q1,q2⟩:=ht.tmps t v h1
    refine ⟨u :: us,?_,q2,k2⟩
    have hgd:a.tmps.getD t undef=u:=by simp [Array.getD_eq_getD_getElem?,q1]
    simp only [List.mapM_cons,Sem.run_bind,Sem.run_pure,Result.andThen_ok,k1,hgd]
   .cases hx
 | .cell x ty :: l,vs,hx=>by
   simp only [resA] at hx
   split at hx
   .rename_i ad ti r h1 h2 h3
    obtain ⟨us,k1,k2⟩:=res_sound hE hr ht h3
    obtain ⟨u,q1,q2⟩:=ht.tmps x _ h1
    obtain ⟨hs,y,hy,rfl⟩:ad.spot=none/\∃ y,θ ad.block=some y/\u = .pointer (some ⟨y.1,y.2.1+ad.off,none⟩):=q2
    obtain ⟨i,d,z,fl,g1,g2,g3,g4,g5,rfl⟩:=ti_spec (hE _ _ h2)
    have hgd:a.tmps.getD x undef = .pointer (some ⟨y.1,y.2.1+ad.off,none⟩):=by simp [Array.getD_eq_getD_getElem?,q1]
    have fin:∀ u',(loadVar ty ⟨y.1,y.2.1+ad.off,none⟩).run E.P w = .ok u' w->((ResultVar.cell x ty :: l).mapM fun | .tmp t=>pure (a.tmps.getD t undef) | .cell x t=>do loadVar t (<- asAddr (a.tmps.getD x undef)):Sem (List Value)).run E.P w = .ok (u' :: us) w:=by
     intro u' hu'
     rw [List.mapM_cons,Sem.run_bind]
     show ((do loadVar ty (<- asAddr (a.tmps.getD x undef)):Sem Value).run E.P w).andThen _=_
     have hh:(do loadVar ty (<- asAddr (a.tmps.getD x undef)):Sem Value).run E.P w = .ok u' w:=by rw [hgd]; simp [asAddr,hu']
     rw [hh]
     simp only [Result.andThen_ok,Sem.run_bind,k1,Sem.run_pure]
    simp only at hx
    cases hg:aggB d
    .simp only [hg,cond_false] at hx
     split at hx
     .rename_i v hl
      cases hx
      obtain ⟨ds,m1,m2,m3,m4⟩:=load_sound (P:=E.P) hr hl hy
      match ds,m4,m2,m3 with
      | [b],_,m2,m3 =>
        have:=m3 0 b (by simp)
        simp only [Nat.add_zero] at this
        exact ⟨b :: us,fin b (by simp [loadVar,run_isAgg g2,hg,this]),W_of_S m2.1,k2⟩
     .cases hx
    .simp only [hg,cond_true] at hx
     split at hx
     .rename_i cs hl
      cases hx
      obtain ⟨ds,m1,m2,m3,m4⟩:=load_sound (P:=E.P) hr hl hy
      exact ⟨.agg ds.toArray :: us,fin _ (by simp [loadVar,run_isAgg g2,hg,run_sizeOf g1,m1]),⟨ds,rfl,by simpa using m2⟩,k2⟩
     .cases hx
   .cases hx
theorem results_sound [LG] {E:Env} (hE:EnvT E) {θ:Th} {T:Tm} {h:Hp} {w:World} {a:Act} (hr:HR θ h w) (ht:TR θ T a) {fn:Func} {vs:List Value} {r:Value} (hx:resA (opv T) h E fn.results.toList=some vs) (ho:oneOf vs=some r):∃ u,(results fn a.tmps).run E.P w = .ok u w/\W θ r u:=by
 obtain ⟨us,k1,k2⟩:=res_sound hE hr ht hx
 have hl:=all2_len k2
 have hrun:(results fn a.tmps).run E.P w = .ok (if h:us.toArray.size=1 then us.toArray[0] else .tuple us.toArray) w:=by
  unfold results
  rw [Array.mapM_eq_mapM_toList]
  simp only [map_eq_pure_bind,bind_assoc,pure_bind,Sem.run_bind]
  refine (congrArg (fun r=>Result.andThen r _) k1).trans ?_
  rfl
 match vs,us,k2,ho,hrun with
 | [v],[u],k2,ho,hrun =>
   simp only [oneOf,Option.some.injEq] at ho
   subst ho
   exact ⟨u,by simpa using hrun,k2.1⟩
 | [],[],k2,ho,hrun =>
   simp only [oneOf,noTup,cond_true,Option.some.injEq] at ho
   subst ho
   exact ⟨.tuple #[],by simpa using hrun,⟨[],rfl,trivial⟩⟩
 | v1 :: v2 :: vs,u1 :: u2 :: us,k2,ho,hrun =>
   simp only [oneOf] at ho
   cases hn:noTup (v1 :: v2 :: vs)<;>simp only [hn,cond_true,cond_false,reduceCtorEq,Option.some.injEq] at ho
   subst ho
   refine ⟨.tuple (u1 :: u2 :: us).toArray,by simpa using hrun,⟨u1 :: u2 :: us,rfl,by simpa using noTup_V hn k2⟩⟩
 | [_],[],k2,_,_=>exact k2.elim
 | [_],_ :: _ :: _,k2,_,_=>exact k2.2.elim
 | [],_ :: _,k2,_,_=>exact k2.elim
 | _ :: _ :: _,[],k2,_,_=>exact k2.elim
 | _ :: _ :: _,[_],k2,_,_=>exact k2.2.elim
def InLoop (ro:Option Nat) (P:Program) (c:Code) (Q:Exit->Act->World->Prop) (a:Act) (w:World):Prop :=
 ∀ (b:Frame) (k:List Item) (cs:List Frame),b.roundOf=ro->∃ e a' w',Q e a' w'/\ArrivesIn (Machine.fenced P (FW ro)) P (lone (b.atR a (.code c :: .inLoop c :: k)) cs w) b k cs e a' w'
theorem fenced_FW {ro:Option Nat} {P:Program} (m:Machine):m.fenced P (FW ro):=fenced_wide P m
theorem InLoop.wp {ro:Option Nat} {P:Program} {c:Code} {Q:Exit->Act->World->Prop} {a:Act} {w:World} (h:InLoop ro P c Q a w):(Code.loop c).wpIn (FW ro) 0 P Q a w :=
 fun b k cs hro _ _=>let ⟨e,a',w',q,r⟩:=h b k cs hro; ⟨e,a',w',q,.of_steps (.one (fenced_FW _) stepR_loop) r⟩
theorem InLoop.once {ro:Option Nat} {P:Program} {Q:Exit->Act->World->Prop} {a:Act} {w:World} {c:Code} (h:c.wpIn (FW ro) 0 P (Exit.then (InLoop ro P c Q) Q) a w):InLoop ro P c Q a w:=by
 intro b k cs hro
 obtain ⟨e,a₁,w₁,hq,harr⟩:=h b (.inLoop c :: k) cs hro fn_FW (room_FW _)
 cases e with
 | normal =>
   obtain ⟨e₂,a₂,w₂,hq₂,harr₂⟩:=hq b k cs hro
   exact ⟨e₂,a₂,w₂,hq₂,.of_steps (StepsIn.trans harr (.one (fenced_FW _) stepR_inLoop)) harr₂⟩
 | exit id=>exact ⟨_,a₁,w₁,hq,.pass (x:=.inLoop c) rfl (fun _ _=>.inl (by simp)) harr⟩
 | goto l=>exact ⟨_,a₁,w₁,hq,.pass (x:=.inLoop c) rfl (fun _ _=>.inl (by simp)) harr⟩
 | ret=>exact ⟨_,a₁,w₁,hq,.pass (x:=.inLoop c) rfl (fun _ _=>.inl (by simp)) harr⟩
 | panic ch=>exact ⟨_,a₁,w₁,hq,.pass (x:=.inLoop c) rfl (fun _ _=>.inl (by simp)) harr⟩
 | outgrown=>exact ⟨_,a₁,w₁,hq,.pass (x:=.inLoop c) rfl (fun _ _=>.inl (by simp)) harr⟩
def LW (ro:Option Nat) (P:Program) (c:Code) (Q:Exit->Act->World->Prop) (a:Act) (w:World):Prop:=match c with
 | .loop c=>InLoop ro P c Q a w
 | c=>c.wpIn (FW ro) 0 P Q a w
theorem LW.wp {ro:Option Nat} {P:Program} {c:Code} {Q:Exit->Act->World->Prop} {a:Act} {w:World} (h:LW ro P c Q a w):c.wpIn (FW ro) 0 P Q a w:=by
 cases c<;>first | exact h | exact InLoop.wp h
def Mk (B:Nat) (θ:Th) (h:Hp) (w:World) (D:Nat):Prop:=B<=D/\w.heap[D]? = some (.deferred (some []))/\∀ n e x,tget h.m n=some e->θ n=some x->x.1≠D
def Marks (B:Nat) (θ:Th) (h:Hp) (w:World):List Deferred->Prop
 | []=>True
 | d :: ds=>(∃ D,d = { target:=.collected D,args:=#[] }/\Mk B θ h w D/\∀ d'∈ds,d'.target≠.collected D)/\Marks B θ h w ds
theorem lt_of_heap {w:World} {D:Nat} {o:Obj} (h:w.heap[D]? = some o):D<w.heap.size:=(Array.getElem?_eq_some_iff.1 h).1
theorem Mk.ext {B nm:Nat} {θ θ':Th} {h h':Hp} {w w':World} {D:Nat} (m:Mk B θ h w D) (e:Ext nm θ h w θ' h' w'):Mk B θ' h' w' D:=by
 obtain ⟨m0,m1,m2⟩:=m
 have hlt:=lt_of_heap m1
 refine ⟨m0,(e.frame D hlt fun n en x q1 _ q2=>m2 n en x q1 q2).trans m1,fun n en x q1 q2 q3=>?_⟩
 rcases e.own n en x q1 q2 with q4 | ⟨k,ek,y,q4,q5,q6⟩
 .omega
 .exact m2 k ek y q4 q5 (q6.trans q3)
theorem Marks.ext {B nm:Nat} {θ θ':Th} {h h':Hp} {w w':World} (e:Ext nm θ h w θ' h' w'):∀ {ds:List Deferred},Marks B θ h w ds->Marks B θ' h' w' ds
 | [],_=>trivial
 | _ :: _,⟨⟨D,h1,h2,h3⟩,h4⟩=>⟨⟨D,h1,h2.ext e,h3⟩,Marks.ext e h4⟩
theorem Marks.lt {B:Nat} {θ:Th} {h:Hp} {w:World}:∀ {ds:List Deferred},Marks B θ h w ds->∀ d∈ds,∀ D,d.target = .collected D->D<w.heap.size
 | [],_,d,hd,_,_=>by cases hd
 | _ :: _,⟨⟨D,h1,h2,_⟩,h4⟩,d,hd,D',hD'=>by
   rcases List.mem_cons.1 hd with rfl | hd
   .rw [h1] at hD'
    cases hD'
    exact lt_of_heap h2.2.1
   .exact Marks.lt h4 d hd D' hD'
theorem newLp_sound [LG] {θ:Th} {h:Hp} {w:World} (hr:HR θ h w) {L:Lp} {r:Loop} (hg:LG.good L) (hL:LpR θ L r) :
 HR (fun n=>if n=h.nxt then some (w.heap.size,0,0) else θ n) (newLp h L) (w.alloc (.loop r))/\Ext h.nxt θ h w (fun n=>if n=h.nxt then some (w.heap.size,0,0) else θ n) (newLp h L) (w.alloc (.loop r)):=by
 have hnm:θ h.nxt=none:=hr.fresh _ (Nat.le_refl _)
 have hkeep:∀ n x,θ n=some x->(fun n=>if n=h.nxt then some (w.heap.size,0,0) else θ n) n=some x:=by
  intro n x hx
  have:n≠h.nxt:=fun e=>by subst e; rw [hnm] at hx; cases hx
  simp only [if_neg this,hx]
 have hr1:=hr.alloc_free (.loop r)
 refine ⟨⟨?_,?_,?_⟩,hkeep,?_,?_,by simp,rfl,rfl,rfl,fun b hb _=>Below.heap_alloc _ _ _ hb,?_,?_⟩
 .intro n e x hn hx
  simp only [newLp,halloc,tget_tset] at hn
  by_cases hb:h.nxt=n
  .subst hb
   rw [if_pos rfl] at hn
   cases hn
   simp only [if_true,Option.some.injEq] at hx
   subst hx
   refine ⟨by simp,by simp,fun i v hi=>(by cases hi),fun o ho=>?_,fun hu=>absurd rfl hu⟩
   cases ho
   exact ObR_mono hkeep (⟨hg,r,World.alloc_heap_new w (.loop r),hL⟩:ObR θ _ (.loop L))
  .rw [if_neg hb] at hn
   simp only [if_neg (Ne.symm hb)] at hx
   have q:=hr1.ent _ _ _ hn hx
   exact ⟨hkeep _ _ q.at_,q.lt,fun i v hi=>let ⟨⟨u,k1,k2⟩,k3⟩:=q.cell i v hi; ⟨⟨u,k1,S_mono hkeep k2⟩,k3⟩,fun o ho=>ObR_mono hkeep (q.ob o ho),q.room⟩
 .intro n m e e' x y h1 h2 hne t1 t2
  simp only [newLp,halloc,tget_tset] at h1 h2
  by_cases hn:h.nxt=n
  .subst hn
   simp only [if_true] at t1
   rw [if_neg hne] at h2
   simp only [if_neg (Ne.symm hne)] at t2
   have:=(hr.ent _ _ _ h2 t2).lt
   cases t1
   simp only; omega
  .rw [if_neg hn] at h1
   simp only [if_neg (Ne.symm hn)] at t1
   by_cases hm:h.nxt=m
   .subst hm
    simp only [if_true] at t2
    have:=(hr.ent _ _ _ h1 t1).lt
    cases t2
    simp only; omega
   .rw [if_neg hm] at h2
    simp only [if_neg (Ne.symm hm)] at t2
    exact hr.sep n m e e' x y h1 h2 hne t1 t2
 .intro n hn
  simp only [newLp,halloc] at hn
  have h1:n≠h.nxt:=by omega
  simp only [if_neg h1]
  exact hr.fresh n (by omega)
 .intro n _ hne
  simp only [if_neg hne]
 .simp only [newLp,halloc]; omega
 .intro n e x h1 hu h2
  simp only [newLp,halloc,tget_tset] at h1
  by_cases hb:h.nxt=n
  .subst hb
   simp only [if_true] at h2
   cases h2
   exact .inl (Nat.le_refl _)
  .rw [if_neg hb] at h1
   simp only [if_neg (Ne.symm hb)] at h2
   exact .inr ⟨n,e,x,h1,hu,h2,rfl⟩
 .intro n e x h1 h2
  simp only [newLp,halloc,tget_tset] at h1
  by_cases hb:h.nxt=n
  .subst hb
   simp only [if_true] at h2
   cases h2
   exact .inl (Nat.le_refl _)
  .rw [if_neg hb] at h1
   simp only [if_neg (Ne.symm hb)] at h2
   exact .inr ⟨n,e,x,h1,h2,rfl⟩
theorem getLp_spec {h:Hp} {l:Nat} {L:Lp} (hg:getLp h l=some L):∃ e,tget h.m l=some e/\e.ob=some (.loop L)/\e.unk≠roU:=by
 unfold getLp at hg
 split at hg
 .rename_i e he
  cases hu0:Nat.beq e.unk 0<;>simp only [hu0,cond_true,cond_false,reduceCtorEq] at hg
  have hro:e.unk≠roU:=by rw [Nat.eq_of_beq_eq_true hu0]; unfold roU; omega
  split at hg
  .rename_i L' ho
   cases hg
   exact ⟨e,he,ho,hro⟩
  .cases hg
 .cases hg
theorem getLp_R [LG] {θ:Th} {h:Hp} {w:World} (hr:HR θ h w) {l:Nat} {L:Lp} {x:Nat × Nat × Nat} (hg:getLp h l=some L) (hx:θ l=some x):LG.good L/\∃ r,w.heap[x.1]? = some (.loop r)/\LpR θ L r:=by
 obtain ⟨e,he,ho,_⟩:=getLp_spec hg
 exact (hr.ent l e x he hx).ob _ ho
theorem setLp_sound [LG] {θ:Th} {h h':Hp} {w:World} (hr:HR θ h w) {l st:Nat} {pend:Option Code} {x:Nat × Nat × Nat} (hs:setLp h l st pend=some h') (hx:θ l=some x) :
 ∃ r,w.heap[x.1]? = some (.loop r)/\HR θ h' (w.putObj x.1 (.loop { r with state:=stOf st,pending:=pend }))/\∀ nm,Ext nm θ h w θ h' (w.putObj x.1 (.loop { r with state:=stOf st,pending:=pend })):=by
 unfold setLp at hs
 split at hs
 .rename_i e he
  cases hu0:Nat.beq e.unk 0<;>simp only [hu0,cond_true,cond_false,reduceCtorEq] at hs
  have hro:e.unk≠roU:=by rw [Nat.eq_of_beq_eq_true hu0]; unfold roU; omega
  split at hs
  .rename_i L ho
   cases hs
   have re:=hr.ent l e x he hx
   obtain ⟨g,r,hb,hL⟩:LG.good L/\∃ r,w.heap[x.1]? = some (.loop r)/\LpR θ L r:=re.ob _ ho
   have lift:∀ k ek,tget (tset h.m l (some ⟨.nil,0,0,some (.loop ⟨L.fn,L.N,L.ps,L.asg,L.body,L.ts,st,pend⟩)⟩)) k=some ek->∃ ek',tget h.m k=some ek':=by
    intro k ek hk
    rw [tget_tset] at hk
    split at hk
    .rename_i q; subst q; exact ⟨e,he⟩
    .exact ⟨ek,hk⟩
   refine ⟨r,hb,⟨fun n en y hn hy=>?_,fun n m e1 e2 y z h1 h2 hne t1 t2=>?_,hr.fresh⟩,fun nm=>⟨fun _ _ q=>q,fun _ _ _=>rfl,Nat.le_refl _,by rw [World.putObj_size]; exact Nat.le_refl _,rfl,rfl,rfl,fun b hb hno=>?_,fun n en y hn hu hy=>?_,fun n en y hn hy=>?_⟩⟩
   .simp only [tget_tset] at hn
    by_cases hne:l=n
    .subst hne
     rw [if_pos rfl] at hn
     cases hn
     have hxy:x=y:=by rw [hx] at hy; exact Option.some.inj hy
     subst hxy
     refine ⟨hx,by rw [World.putObj_size]; exact re.lt,fun i v hi=>(by cases hi),fun o ho'=>?_,fun hu=>absurd rfl hu⟩
     cases ho'
     exact ⟨g,_,World.putObj_heap_same re.lt,hL.ps,hL.asg,hL.body,rfl,rfl,hL.size,hL.ts⟩
    .rw [if_neg hne] at hn
     have rz:=hr.ent _ _ _ hn hy
     have hsep:=hr.sep _ _ _ _ _ _ hn he (Ne.symm hne) hy hx
     have hk:(w.putObj x.1 (.loop { r with state:=stOf st,pending:=pend })).heap[y.1]? = w.heap[y.1]?:=World.putObj_heap_other hsep
     refine ⟨rz.at_,by rw [World.putObj_size]; exact rz.lt,fun i v hv=>?_,fun q hq=>(by rw [hk]; exact rz.ob q hq),fun hu=>?_⟩
     .rw [World.cell?_of_block (w:=w) hk,World.frozen?_of_block (w:=w) hk]; exact rz.cell i v hv
     .obtain ⟨h1,h2⟩:=rz.room hu
      refine ⟨h1,fun i hi=>?_⟩
      rw [World.cell?_of_block (w:=w) hk,World.frozen?_of_block (w:=w) hk]; exact h2 i hi
   .obtain ⟨e1',h1'⟩:=lift n e1 h1
    obtain ⟨e2',h2'⟩:=lift m e2 h2
    exact hr.sep n m e1' e2' y z h1' h2' hne t1 t2
   .exact World.putObj_heap_other fun q=>hno l e x he hro hx q.symm
   .simp only [tget_tset] at hn
    split at hn
    .rename_i q; subst q; exact .inr ⟨_,_,_,he,hro,hy,rfl⟩
    .exact .inr ⟨_,_,_,hn,hu,hy,rfl⟩
   .simp only [tget_tset] at hn
    split at hn
    .rename_i q; subst q; exact .inr ⟨_,_,_,he,hy,rfl⟩
    .exact .inr ⟨_,_,_,hn,hy,rfl⟩
  .cases hs
 .cases hs
theorem dropE_sound [LG] {θ:Th} {h:Hp} {w:World} (hr:HR θ h w) {l:Nat} {x:Nat × Nat × Nat} {e:Ent} (he:tget h.m l=some e) (hu:e.unk≠roU) (hx:θ l=some x) (o:Obj) :
 HR θ (dropE h l) (w.putObj x.1 o)/\∀ nm,Ext nm θ h w θ (dropE h l) (w.putObj x.1 o):=by
 have down:∀ n en,tget (dropE h l).m n=some en->tget h.m n=some en/\l≠n:=by
  intro n en hn
  simp only [dropE,tget_tset] at hn
  by_cases q:l=n
  .rw [if_pos q] at hn; cases hn
  .rw [if_neg q] at hn; exact ⟨hn,q⟩
 have hr1:HR θ (dropE h l) w:=⟨fun n en y hn hy=>hr.ent n en y (down n en hn).1 hy,fun n m e1 e2 y z h1 h2 hne t1 t2=>hr.sep n m e1 e2 y z (down _ _ h1).1 (down _ _ h2).1 hne t1 t2,hr.fresh⟩
 refine ⟨hr1.put_free o fun n en y hn hy=>hr.sep n l en e y x (down n en hn).1 he (Ne.symm (down n en hn).2) hy hx,fun nm=>⟨fun _ _ q=>q,fun _ _ _=>rfl,Nat.le_refl _,by rw [World.putObj_size]; exact Nat.le_refl _,rfl,rfl,rfl,fun b hb hno=>World.putObj_heap_other fun q=>hno l e x he hu hx q.symm,fun n en y hn hq hy=>.inr ⟨_,_,_,(down n en hn).1,hq,hy,rfl⟩,fun n en y hn hy=>.inr ⟨_,_,_,(down n en hn).1,hy,rfl⟩⟩⟩
def RoR (θ:Th):Option Nat->Option Nat->Prop
 | none,none=>True
 | some n,some b=>∃ x,θ n=some x/\x.1=b
 | _,_=>False
theorem RoR.mono {θ θ':Th} (h:∀ n x,θ n=some x->θ' n=some x):∀ {q r:Option Nat},RoR θ q r->RoR θ' q r
 | none,none,_=>trivial
 | some _,some _,⟨x,h1,h2⟩=>⟨x,h _ _ h1,h2⟩
def Lead [LG] (E:Env) (q:Option Nat) (c:Code) (N:Nat) (T:Tm) (h:Hp) (x:Exit) (T':Tm) (h':Hp):Prop :=
 ∀ ro B θ a w Q,RoR θ q ro->B<=w.heap.size->Marks B θ h w a.defers->TR θ T a->N<=a.tmps.size->HR θ h w->
  (∀ θ' a' w',Ext h.nxt θ h w θ' h' w'->HR θ' h' w'->TR θ' T' a'->a'.tmps.size=a.tmps.size->Marks B θ' h' w' a'.defers->Q x a' w')->LW ro E.P c Q a w
def RunOk [LG] (E:Env) (run:Code->At->Tm->Hp->Option (Exit × Tm × Hp)):Prop :=
 ∀ c f N T h x T' h',run c f T h=some (x,T',h')->codeOk E f.fn N c=true->Lead E f.ro c N T h x T' h'
def LGOk [LG] (E:Env):Prop:=∀ L,LG.good L↔(codeOk E L.fn L.N L.asg=true/\codeOk E L.fn L.N L.body=true/\L.ps.all (fun t=>Nat.blt t L.N)=true)
theorem marks_leave [LG] {P:Program} {fn:Func} {tmps:Array Value} {R:Ending->World->Prop} {nm:Nat} {θ0 θ:Th} {h0 h:Hp} {w0:World}:∀ (ds:List Deferred) (w:World),Marks w0.heap.size θ h w ds->HR θ h w->Ext nm θ0 h0 w0 θ h w->
 (∀ w',HR θ h w'->Ext nm θ0 h0 w0 θ h w'->∃ v,(results fn tmps).run P w' = .ok v w'/\R (.returned v) w')->LeavesInM (FW none) 0 P fn tmps R ds .returning w
 | [],w,_,hr,e,hf=>hf w hr e
 | d :: ds,w,⟨⟨D,h1,⟨h2,h3,h4⟩,h5⟩,h6⟩,hr,e,hf=>by
   refine ⟨by simp,.inl ⟨D,_,by rw [h1],run_takeDeferred h3,?_⟩⟩
   refine marks_leave ds _ ?_ (hr.put_free _ h4) (e.put_free _ h2) hf
   have go:∀ l:List Deferred,(∀ d'∈l,d'.target≠.collected D)->Marks w0.heap.size θ h w l->Marks w0.heap.size θ h (w.putObj D (.deferred none)) l:=by
    intro l
    induction l with
    | nil=>exact fun _ _=>trivial
    | cons d' l ih =>
      rintro hne ⟨⟨D',k1,⟨k2,k3,k4⟩,k5⟩,k6⟩
      have hDD:D'≠D:=fun q=>hne d' (by simp) (by rw [k1,q])
      exact ⟨⟨D',k1,⟨k2,(World.putObj_heap_other hDD).trans k3,k4⟩,k5⟩,ih (fun z hz=>hne z (by simp [hz])) k6⟩
   exact go ds h5 h6
theorem putAll_get:∀ (l:List (Nat × Value)) (T:Tm) (t:Nat) (v:Value),tget (putAll T l) t=some v->(t,v)∈l\/tget T t=some v
 | [],T,t,v,h=>.inr h
 | p :: l,T,t,v,h=>by
   rcases putAll_get l _ t v h with q | q
   .exact .inl (by simp [q])
   .rw [tget_tset] at q
    split at q
    .rename_i e; cases q; subst e; exact .inl (by simp)
    .exact .inr q
theorem snap_mem {T:Tm}:∀ {n t:Nat} {v:Value},(t,v)∈snap T n->tget T t=some v
 | 0,t,v,h=>by cases h
 | n+1,t,v,h=>by
   simp only [snap] at h
   split at h
   .rename_i u hu
    rcases List.mem_cons.1 h with e | h
    .cases e; exact hu
    .exact snap_mem h
   .exact snap_mem h
theorem putPs_R {θ:Th}:∀ (ps:List Nat) (vs us:List Value) (T:Tm) (tm:Array Value),all2 (W θ) vs us->ps.length=vs.length->(∀ t∈ps,t<tm.size)->(∀ t v,tget T t=some v->∃ u,tm[t]? = some u/\W θ v u)->
 ∀ t v,tget (putPs T ps vs) t=some v->∃ u,((ps.zip us).foldl (fun tm (p:Nat × Value)=>tm.setIfInBounds p.1 p.2) tm)[t]? = some u/\W θ v u
 | [],vs,us,T,tm,ha,hl,hlt,hT=>by
   cases vs with
   | nil=>intro t v h; exact hT t v h
   | cons a b=>cases hl
 | p :: ps,v0 :: vs,u0 :: us,T,tm,ha,hl,hlt,hT=>by
   intro t v h
   refine putPs_R ps vs us (tset T p (some v0)) (tm.setIfInBounds p u0) ha.2 (by simpa using hl) (fun t ht=>by simpa using hlt t (by simp [ht])) ?_ t v h
   intro t v h
   rw [tget_tset] at h
   rw [Array.getElem?_setIfInBounds]
   split at h
   .rename_i e
    subst e
    cases h
    have:=hlt p (by simp)
    exact ⟨u0,by simp [this],ha.1⟩
   .rename_i e
    obtain ⟨u,k1,k2⟩:=hT t v h
    exact ⟨u,by simp [e,k1],k2⟩
 | p :: ps,[],us,T,tm,ha,hl,hlt,hT=>by cases hl
 | p :: ps,v0 :: vs,[],T,tm,ha,hl,hlt,hT=>ha.elim
theorem fold_size:∀ (l:List (Nat × Value)) (tm:Array Value),(l.foldl (fun tm (p:Nat × Value)=>tm.setIfInBounds p.1 p.2) tm).size=tm.size
 | [],tm=>rfl
 | p :: l,tm=>by rw [List.foldl_cons,fold_size l]; simp
def endSt:Exit->Option (Nat × Option Code)
 | .normal=>some (0,none)
 | .ret=>some (2,some .ret)
 | .exit i=>some (2,some (.exit i))
 | _=>none
theorem round_sound [LG] {E:Env} (hG:LGOk E) {l:Nat} {args cargs:List Value} {h h1 h2 h3 h':Hp} {L L1:Lp} {T1 T3:Tm} {c:Exit} {st:Nat} {pend:Option Code} (hL:getLp h l=some L) (hst0:L.st=0) (hlen:L.ps.length=args.length)
 (lead1:codeOk E L.fn L.N L.asg=true->Lead E (some l) L.asg L.N (putPs (putAll .nil L.ts) L.ps args) h .normal T1 h1) (hL1:getLp h1 l=some L1) (hst1:L1.st=0) (hs2:setLp h1 l 1 L1.pend=some h2) (lead2:codeOk E L.fn L.N L.body=true->Lead E (some l) L.body L.N T1 h2 c T3 h3) (hc:endSt c=some (st,pend)) (hs4:setLp h3 l st pend=some h')
 {θ:Th} {w:World} (hr:HR θ h w) (ha:all2 (W θ) args cargs) {x:Nat × Nat × Nat} (hxl:θ l=some x) :
 YieldAt Fence.wide 0 E.P x.1 cargs.toArray w (fun e w'=>∃ θ' u,e = .returned u/\Ext h.nxt θ h w θ' h' w'/\HR θ' h' w'/\W θ' (.bool pend.isNone) u):=by
 obtain ⟨g,rr,hb,hLr⟩:=getLp_R hr hL hxl
 obtain ⟨g1,g2,g3⟩:=(hG L).1 g
 have hcl:=all2_len ha
 have hps:cargs.toArray.size=rr.params.size:=by
  have:rr.params.size=L.ps.length:=by rw [<- hLr.ps]; simp
  simp; omega
 refine ⟨_,_,_,_,run_yield hb hps,roundIn_of_wpIn (F:=Fence.wide) trivial ?_⟩
 rw [hLr.asg,hLr.body]
 have hsz:∀ t∈L.ps,t<rr.tmps.size:=fun t ht=>by
  rw [List.all_eq_true] at g3
  exact Nat.lt_of_lt_of_le (blt_lt (g3 t ht)) hLr.size
 have hz:(rr.params.zip cargs.toArray).foldl (fun tmps (x:Tmp × Value)=>match x with | (t,a)=>tmps.setIfInBounds t a) rr.tmps=(L.ps.zip cargs).foldl (fun tm (p:Nat × Value)=>tm.setIfInBounds p.1 p.2) rr.tmps:=by
  rw [<- hLr.ps,<- Array.foldl_toList,Array.toList_zip]
 have hN:L.N<=((L.ps.zip cargs).foldl (fun tm (p:Nat × Value)=>tm.setIfInBounds p.1 p.2) rr.tmps).size:=by rw [fold_size]; exact hLr.size
 have htr:TR θ (putPs (putAll .nil L.ts) L.ps args) { tmps:=(rr.params.zip cargs.toArray).foldl (fun tmps (x:Tmp × Value)=>match x with | (t,a)=>tmps.setIfInBounds t a) rr.tmps,defers:=[] }:=by
  rw [hz]
  refine ⟨putPs_R L.ps args cargs _ _ ha hlen hsz fun t v ht=>?_⟩
  rcases putAll_get _ _ t v ht with q | q
  .exact hLr.ts t v q
  .cases q
 refine (lead1 g1 (some x.1) 0 θ ⟨_,[]⟩ w _ ⟨x,hxl,rfl⟩ (Nat.zero_le _) trivial htr (by rw [hz]; exact hN) hr fun θ1 a1 w1 e1 r1 t1 s1 m1=>?_).wp
 have hx1:=e1.keep _ _ hxl
 obtain ⟨_,rr1,hb1,hLr1⟩:=getLp_R r1 hL1 hx1
 obtain ⟨rr1',hb1',hr2,he2⟩:=setLp_sound r1 hs2 hx1
 have e11:rr1'=rr1:=by rw [hb1] at hb1'; cases hb1'; rfl
 subst e11
 have hst:rr1'.state = .ready:=by rw [hLr1.st,hst1]; rfl
 have hw2:(Instr.beginRound x.1).run E.P w1 = .ok () (w1.putObj x.1 (.loop { rr1' with state:=stOf 1,pending:=L1.pend })):=by
  rw [run_beginRound hb1 hst,<- hLr1.pend]
  rfl
 refine ⟨_,hw2,?_⟩
 have e12:=e1.trans (he2 h.nxt) (fun n hn h3 e=>h3 e)
 refine (lead2 g2 (some x.1) 0 θ1 a1 _ _ ⟨x,hx1,rfl⟩ (Nat.zero_le _) (m1.ext (he2 h.nxt)) t1 (by rw [s1,hz]; exact hN) hr2 fun θ3 a3 w3 e3 r3 t3 s3 m3=>?_).wp
 obtain ⟨rr3,hb3',hr4,he4⟩:=setLp_sound r3 hs4 (e3.keep _ _ hx1)
 have fin:stOf st=(if pend.isNone then .ready else .done)->∃ v w',(Instr.endRound x.1 pend).run E.P w3 = .ok v w'/\∃ θ' u,Ending.returned v = .returned u/\Ext h.nxt θ h w θ' h' w'/\HR θ' h' w'/\W θ' (.bool pend.isNone) u:=by
  intro hst4
  refine ⟨_,_,run_endRound pend hb3',θ3,_,rfl,?_,?_,rfl⟩
  .rw [<- hst4]
   exact (e12.trans e3 (fun n hn _ q=>by have:=e12.nxt; omega)).trans (he4 h.nxt) (fun n hn h4 q=>h4 q)
  .rw [<- hst4]; exact hr4
 cases c<;>simp only [endSt,reduceCtorEq,Option.some.injEq,Prod.mk.injEq] at hc
 all_goals
  obtain ⟨rfl,rfl⟩:=hc
  exact fin rfl
theorem yield_sound [LG] {E:Env} (hG:LGOk E) {run:Code->At->Tm->Hp->Option (Exit × Tm × Hp)} (hrun:RunOk E run) {l:Nat} {args cargs:List Value} {h h':Hp} {r:Value} (hx:yieldA run l args h=some (r,h')) {θ:Th} {w:World} (hr:HR θ h w) (ha:all2 (W θ) args cargs) {x:Nat × Nat × Nat} (hxl:θ l=some x) :
 YieldAt Fence.wide 0 E.P x.1 cargs.toArray w (fun e w'=>∃ θ' u,e = .returned u/\Ext h.nxt θ h w θ' h' w'/\HR θ' h' w'/\W θ' r u):=by
 unfold yieldA at hx
 obtain ⟨L,hL,hx⟩:=ob_some hx
 cases hq:(Nat.beq L.st 0&&Nat.beq L.ps.length args.length)<;>simp only [hq,cond_true,cond_false,reduceCtorEq] at hx
 simp only [Bool.and_eq_true] at hq
 split at hx
 .rename_i T1 h1 hasg
  obtain ⟨L1,hL1,hx⟩:=ob_some hx
  cases hq1:Nat.beq L1.st 0<;>simp only [hq1,cond_true,cond_false,reduceCtorEq] at hx
  obtain ⟨h2,hs2,hx⟩:=ob_some hx
  split at hx
  .rename_i T3 h3 hb3
   obtain ⟨h4,hs4,hx⟩:=ob_some hx
   cases hx
   exact round_sound hG hL (Nat.eq_of_beq_eq_true hq.1) (Nat.eq_of_beq_eq_true hq.2) (fun k=>hrun _ _ _ _ _ _ _ _ hasg k) hL1 (Nat.eq_of_beq_eq_true hq1) hs2 (fun k=>hrun _ _ _ _ _ _ _ _ hb3 k) rfl hs4 hr ha hxl
  .rename_i T3 h3 hb3
   obtain ⟨h4,hs4,hx⟩:=ob_some hx
   cases hx
   exact round_sound hG hL (Nat.eq_of_beq_eq_true hq.1) (Nat.eq_of_beq_eq_true hq.2) (fun k=>hrun _ _ _ _ _ _ _ _ hasg k) hL1 (Nat.eq_of_beq_eq_true hq1) hs2 (fun k=>hrun _ _ _ _ _ _ _ _ hb3 k) rfl hs4 hr ha hxl
  .rename_i i T3 h3 hb3
   obtain ⟨h4,hs4,hx⟩:=ob_some hx
   cases hx
   exact round_sound hG hL (Nat.eq_of_beq_eq_true hq.1) (Nat.eq_of_beq_eq_true hq.2) (fun k=>hrun _ _ _ _ _ _ _ _ hasg k) hL1 (Nat.eq_of_beq_eq_true hq1) hs2 (fun k=>hrun _ _ _ _ _ _ _ _ hb3 k) rfl hs4 hr ha hxl
  .cases hx
 .cases hx
theorem body_sound [LG] {E:Env} (hE:EnvOk E) {g:Nat} {fn:Func} (hfn:tget E.ff g=some fn) {cargs args:List Value} {θ:Th} {h h':Hp} {w:World} {r:Value} {T1:Tm} {x:Exit} (hx:x = .normal\/x = .ret) {vs:List Value} (k1:resA (opv T1) h' E fn.results.toList=some vs) (k3:oneOf vs=some r) {c:Code} (f3:fn.body=some c)
 (hw:∀ Q:Exit->Act->World->Prop,(∀ θ' a' w',Ext h.nxt θ h w θ' h' w'->HR θ' h' w'->TR θ' T1 a'->Marks w.heap.size θ' h' w' a'.defers->Q x a' w')->c.wpIn (FW none) 0 E.P Q { tmps:=cargs.toArray++Array.replicate (fn.ntmps-cargs.toArray.size) undef,defers:=[] } w) :
 (callFunc g cargs.toArray).run E.P w = .ok (.enter g cargs.toArray) w/\Calls E.P g cargs.toArray w (fun e w'=>∃ θ' u,e = .returned u/\Ext h.nxt θ h w θ' h' w'/\HR θ' h' w'/\W θ' r u):=by
 obtain ⟨f1,f2,c',f3',f4⟩:=hE.ff g fn hfn
 have f2' : ¬ fn.name = "runtime.NumGoroutine" := fun e => by rw [e] at f2; simp at f2
 refine ⟨by simp [callFunc,f1,f2',f3],?_⟩
 refine (callsIn_wide (n:=0)).1 (callsIn_of_wp_marks (F:=FW none) f1 f3 trivial ?_)
 refine hw _ fun θ' a' w' e1 r1 t1 m1=>?_
 have fin:LeavesInM (FW none) 0 E.P fn a'.tmps (fun e w'=>∃ θ' u,e = .returned u/\Ext h.nxt θ h w θ' h' w'/\HR θ' h' w'/\W θ' r u) a'.defers .returning w':=by
  refine marks_leave a'.defers w' m1 r1 e1 fun w2 r2 e2=>?_
  obtain ⟨u,q1,q2⟩:=results_sound hE.tt r2 t1 k1 k3
  exact ⟨u,q1,θ',u,rfl,e2,r2,q2⟩
 rcases hx with rfl | rfl<;>exact fin
theorem call_sound [LG] {E:Env} (hE:EnvOk E) (hG:LGOk E) {run:Code->At->Tm->Hp->Option (Exit × Tm × Hp)} (hrun:RunOk E run) (h:Hp):CallAt E.P (callA E run) h.nxt h:=by
 intro g args r h' hx θ w cargs hr hargs
 unfold callA at hx
 cases hlt:Nat.blt g unkU<;>simp only [hlt,cond_true,cond_false] at hx
 .have hge:=blt_ge hlt
  exact ⟨fun q=>by omega,fun _ x hx0=>yield_sound hG hrun hx hr hargs hx0⟩
 refine ⟨fun _=>?_,fun q=>by have:=blt_lt hlt; omega⟩
 split at hx
 .unfold xext at hx
  split at hx
  .refine .inr ?_
   rename_i a b hg
   cases hx
   obtain ⟨y,xv,hm,hw1,hw2⟩:=all2_two hargs
   subst hm
   have e1:y = .string a:=hw1
   have e2:xv = .string b:=hw2
   subst e1; subst e2
   exact ⟨_,hE.xx g hg a b w,rfl,rfl⟩
  .refine .inl ?_
   rename_i hg
   cases hx
   have hc:cargs=[]:=by cases cargs with
    | nil=>rfl
    | cons a b=>exact hargs.elim
   subst hc
   obtain ⟨h1,h2⟩:=hE.x2 g hg w
   refine ⟨h1,h2.mono fun e w' ⟨he,hb⟩=>⟨θ,.bool true,he,Ext.below hb,hr.below hb,rfl⟩⟩
  .refine .inr ?_
   rename_i s c hg
   cases hx
   obtain ⟨y,xv,hm,hw1,hw2⟩:=all2_two hargs
   subst hm
   have e1:y = .string s:=hw1
   have e2:xv = .int .u8 c:=hw2
   subst e1; subst e2
   exact ⟨_,hE.x3 g hg s c w,rfl,rfl⟩
  .refine .inl ?_
   rename_i s cs hg
   unfold splX at hx
   split at hx
   .rename_i a n p hcs
    cases hb:splB s a n p<;>simp only [hb,cond_true,cond_false] at hx
    .cases hx
    cases hx
    obtain ⟨y,xv,hm,hw1,hw2⟩:=all2_two hargs
    subst hm
    have e1:y = .string s:=hw1
    have hcs':cs = #[.int .i64 a,.int .i64 n,.string p]:=by
     apply Array.toList_inj.1
     rw [hcs]
    subst hcs'
    have e2:xv = .agg #[.int .i64 a,.int .i64 n,.string p]:=plainA_eq rfl hw2
    subst e1; subst e2
    obtain ⟨h1,h2⟩:=hE.x4 g hg s a n p w hb
    refine ⟨h1,h2.mono fun e w' ⟨he,hbl⟩=>⟨θ,.string _,he,Ext.below hbl,hr.below hbl,rfl⟩⟩
   .cases hx
  .cases hx
 .rename_i fn hfn
  refine .inl ?_
  obtain ⟨f1,f2,c,f3,f4⟩:=hE.ff g fn hfn
  rw [f3] at hx
  simp only at hx
  have hsz:fn.ntmps<=(cargs.toArray++Array.replicate (fn.ntmps-cargs.toArray.size) undef).size:=by simp; omega
  split at hx
  .rename_i T1 h1 hev
   obtain ⟨vs,k1,k2⟩:=ob_some hx
   obtain ⟨r',k3,k4⟩:=ob_some k2
   cases k4
   exact body_sound (args:=args) hE hfn (.inl rfl) k1 k3 f3 fun Q hQ=>(hrun c ⟨g,none⟩ fn.ntmps _ h _ _ _ hev f4 none w.heap.size θ ⟨_,[]⟩ w _ trivial (Nat.le_refl _) trivial (args_TR hargs _) hsz hr fun θ' a' w' e1 r1 t1 _ m1=>hQ θ' a' w' e1 r1 t1 m1).wp
  .rename_i T1 h1 hev
   obtain ⟨vs,k1,k2⟩:=ob_some hx
   obtain ⟨r',k3,k4⟩:=ob_some k2
   cases k4
   exact body_sound (args:=args) hE hfn (.inr rfl) k1 k3 f3 fun Q hQ=>(hrun c ⟨g,none⟩ fn.ntmps _ h _ _ _ hev f4 none w.heap.size θ ⟨_,[]⟩ w _ trivial (Nat.le_refl _) trivial (args_TR hargs _) hsz hr fun θ' a' w' e1 r1 t1 _ m1=>hQ θ' a' w' e1 r1 t1 m1).wp
  .cases hx
theorem run_enterLoop_inner {P:Program} {w:World} {b0:Nat} {r0:Loop} (hb:w.heap[b0]? = some (.loop r0)) (fn:FuncId) (tmps:Array Value) (ps:Array Tmp) (assign body:Code) :
 (Instr.enterLoop fn tmps ps assign body (some b0)).run P w = .ok (w.heap.size,[]) (w.alloc (.loop { state:=.ready,pending:=none,fn,tmps,params:=ps,assign,body,defers:=r0.defers })):=by
 unfold Instr.enterLoop
 simp only [Sem.run_bind,run_getLoop hb,run_newObj_alloc,Result.andThen,Sem.run_pure]
theorem range_sound [LG] {E:Env} (hE:EnvOk E) (hG:LGOk E) {call:Nat->List Value->Hp->Option (Value × Hp)} (hcall:∀ h,CallAt E.P call h.nxt h) {g:Operand} {ps:Array Tmp} {asg body:Code} {f:At} {N:Nat} {T:Tm} {h h':Hp} {x:Exit} (hc:codeOk E f.fn N (.rangeFunc g ps asg body)=true) (hro:roOk h f.ro=true)
 {it:Nat} {first cap:Array Value} {fn:Func} (hv:opv T g=some (.func (.func it) first cap)) (hfn:tget E.ff f.fn=some fn) (hit:it<unkU) (hits:(tget E.ff it).isSome=true) {v:Value} {h1:Hp}
 (hx:call it (first.toList++[.func (.yield h.nxt) #[] #[]]++cap.toList) (newLp h ⟨f.fn,fn.ntmps,ps.toList,asg,body,snap T fn.ntmps,0,none⟩)=some (v,h1)) {α:Type} {TT TT':α} (hend:endA h1 h.nxt TT=some (x,TT',h'))
 {ro:Option Nat} {B:Nat} {θ:Th} {a:Act} {w:World} {Q:Exit->Act->World->Prop} (hR:RoR θ f.ro ro) (hB:B<=w.heap.size) (hm:Marks B θ h w a.defers) (ht:TR θ T a) (hN:N<=a.tmps.size) (hr:HR θ h w)
 (hQ:∀ θ' a' w',Ext h.nxt θ h w θ' h' w'->HR θ' h' w'->TR θ' T a'->a'.tmps.size=a.tmps.size->Marks B θ' h' w' a'.defers->Q x a' w'):TT'=TT/\(Code.rangeFunc g ps asg body).wpIn (FW ro) 0 E.P Q a w:=by
 simp only [codeOk,Bool.and_eq_true,hfn] at hc
 obtain ⟨⟨⟨c1,c2⟩,c3⟩,c4⟩:=hc
 have hNN:fn.ntmps=N:=Nat.eq_of_beq_eq_true c1
 have hTT:TT'=TT:=by
  unfold endA at hend
  obtain ⟨Le,_,q⟩:=ob_some hend
  cases hb:Nat.beq Le.st 1<;>simp only [hb,cond_true,cond_false,reduceCtorEq] at q
  split at q<;>cases q<;>rfl
 refine ⟨hTT,wpIn_rangeFunc fun fnb _=>?_⟩
 obtain ⟨fa,fb,e3,q1,q2⟩:∃ a' b':List Value,a.eval g = .func (.func it) a'.toArray b'.toArray/\all2 (V0 θ) first.toList a'/\all2 (V0 θ) cap.toList b':=opv_W ht hv
 have hgood:LG.good (⟨f.fn,fn.ntmps,ps.toList,asg,body,snap T fn.ntmps,0,none⟩:Lp):=(hG _).2 ⟨by rw [hNN]; exact c3,by rw [hNN]; exact c4,by rw [hNN]; exact c2⟩
 have hV:∀ {θ1:Th} {l m:List Value},(∀ n x,θ n=some x->θ1 n=some x)->all2 (V0 θ) l m->all2 (W θ1) l m:=fun hk q=>all2_mono (fun _ _ z=>W_mono hk (W_of_V (V_of_V0 z))) q
 obtain ⟨fni,hfni⟩:=Option.isSome_iff_exists.1 hits
 -- from the record on
 have main:∀ (wD:World) (mark:List Deferred) (dfr:Nat),HR θ h wD->Ext h.nxt θ h w θ h wD->Marks B θ h wD (mark++a.defers)->
  (Instr.enterLoop fnb a.tmps ps asg body (FW ro).round).run E.P w = .ok (wD.heap.size,mark) (wD.alloc (.loop { state:=.ready,pending:=none,fn:=fnb,tmps:=a.tmps,params:=ps,assign:=asg,body:=body,defers:=dfr }))->
  ∃ (l:Nat) (mark:List Deferred) (w₁:World) (d:Deferred) (w₁':World) (f:FuncId) (args:Array Value) (w₂:World),
   (Instr.enterLoop fnb a.tmps ps asg body (FW ro).round).run E.P w = .ok (l,mark) w₁/\(resolve a.eval (rangeCall g l) 0).run E.P w₁ = .ok d w₁'/\(∀ f',Target.leads E.P w₁' d.target d.args=some f'->(FW ro).fn f')/\
   (invoke d.target d.args).run E.P w₁' = .ok (.enter f args) w₂/\((FW ro).depth.isSome=true->1<=0)/\CallsIn (FW ro) (0-1) E.P f args w₂ (rangePost (FW ro) 0 E.P l Q { a with defers:=mark++a.defers }):=by
  intro wD mark dfr hrD heD hmD hen
  have hLr:LpR θ (⟨f.fn,fn.ntmps,ps.toList,asg,body,snap T fn.ntmps,0,none⟩:Lp) { state:=.ready,pending:=none,fn:=fnb,tmps:=a.tmps,params:=ps,assign:=asg,body:=body,defers:=dfr } :=
   ⟨rfl,rfl,rfl,rfl,rfl,by show fn.ntmps<=_; rw [hNN]; exact hN,fun t u hm=>ht.tmps t u (snap_mem hm)⟩
  obtain ⟨hr1,he1⟩:=newLp_sound hrD hgood hLr
  generalize hθ1:(fun n=>if n=h.nxt then some (wD.heap.size,0,0) else θ n)=θ1 at hr1 he1
  have hx1:θ1 h.nxt=some (wD.heap.size,0,0):=by rw [<- hθ1]; simp
  have hargs:all2 (W θ1) (first.toList++[.func (.yield h.nxt) #[] #[]]++cap.toList) (fa++[Value.func (.yield wD.heap.size) #[] #[]]++fb) :=
   all2_append (all2_append (hV he1.keep q1) ⟨⟨_,hx1,rfl⟩,trivial⟩) (hV he1.keep q2)
  generalize hw1:wD.alloc (.loop { state:=.ready,pending:=none,fn:=fnb,tmps:=a.tmps,params:=ps,assign:=asg,body:=body,defers:=dfr })=w1 at hr1 he1 hen
  obtain ⟨f1,f2,cc,f3,_⟩:=hE.ff it fni hfni
  have f2' : ¬ fni.name = "runtime.NumGoroutine" := fun e => by rw [e] at f2; simp at f2
  have henter:(callFunc it (fa++[Value.func (.yield wD.heap.size) #[] #[]]++fb).toArray).run E.P w1 = .ok (.enter it (fa++[Value.func (.yield wD.heap.size) #[] #[]]++fb).toArray) w1:=by simp [callFunc,f1,f2',f3]
  have hCalls:=((hcall _ it _ v h1 hx θ1 w1 _ hr1 hargs).1 hit).resolve_right fun ⟨u,k1,_,_⟩=>by rw [henter] at k1; cases k1
  refine ⟨wD.heap.size,mark,w1,{ target:=.fn (.func it) fb.toArray,args:=fa.toArray ++ #[Value.func (.yield wD.heap.size) #[] #[]] },w1,it,(fa++[Value.func (.yield wD.heap.size) #[] #[]]++fb).toArray,w1,hen,?_,fun _ _=>trivial,?_,depth_FW,?_⟩
  .have hcon:a.eval (.const (Value.func (.yield wD.heap.size) #[] #[]))=Value.func (.yield wD.heap.size) #[] #[]:=rfl
   simp [resolve,rangeCall,e3,Deferred.ofValue,hcon]
  .have:(invoke (.fn (.func it) fb.toArray) (fa.toArray ++ #[Value.func (.yield wD.heap.size) #[] #[]])).run E.P w1=(callFunc it (fa++[Value.func (.yield wD.heap.size) #[] #[]]++fb).toArray).run E.P w1:=by
    simp [invoke]
   rw [this]; exact henter
  .refine (callsIn_FW hCalls.2).mono fun e w3 he=>?_
   obtain ⟨θ3,u,rfl,e2,r3,_⟩:=he
   have hx3:=e2.keep _ _ hx1
   unfold endA at hend
   obtain ⟨Le,hLe,q⟩:=ob_some hend
   cases hb:Nat.beq Le.st 1<;>simp only [hb,cond_true,cond_false,reduceCtorEq] at q
   obtain ⟨_,re,hbe,hLre⟩:=getLp_R r3 hLe hx3
   obtain ⟨ee,hee,hoe,hue⟩:=getLp_spec hLe
   have hnb:re.state≠.busy:=by
    rw [hLre.st]
    intro z
    match hs:Le.st with
    | 0=>rw [hs] at z; cases z
    | 1=>rw [hs] at hb; cases hb
    | n+2=>rw [hs] at z; cases z
   have eall:Ext h.nxt θ h w θ3 h1 w3:=(heD.trans he1 (fun n _ z=>z)).trans e2 (fun n hn _ z=>by have:h.nxt<=(newLp h ⟨f.fn,fn.ntmps,ps.toList,asg,body,snap T fn.ntmps,0,none⟩).nxt:=he1.nxt; omega)
   have eD:Ext h.nxt θ h wD θ3 h1 w3:=he1.trans e2 (fun n hn _ z=>by have:h.nxt<=(newLp h ⟨f.fn,fn.ntmps,ps.toList,asg,body,snap T fn.ntmps,0,none⟩).nxt:=he1.nxt; omega)
   obtain ⟨r4,e4⟩:=dropE_sound r3 hee hue hx3 (.loop { re with state:=.exhausted })
   refine ⟨Le.pend,_,(run_endLoop hbe hnb).trans (congrArg (fun j=>Result.ok j _) hLre.pend),?_⟩
   have hfin:h'=dropE h1 h.nxt->Q x { a with defers:=mark++a.defers } (w3.putObj wD.heap.size (.loop { re with state:=.exhausted })):=by
    intro hh
    subst hh
    exact hQ θ3 _ _ (eall.trans (e4 h.nxt) (fun n _ z=>z)) r4 (ht.mono eall.keep |> fun z=>⟨z.tmps⟩) rfl (hmD.ext (eD.trans (e4 h.nxt) (fun n _ z=>z)))
   split at q
   .rename_i hp
    cases q
    rw [hp]
    exact hfin rfl
   .rename_i hp
    cases q
    rw [hp]
    exact wpIn_ret (hfin rfl)
   .rename_i i hp
    cases q
    rw [hp]
    exact wpIn_exit (hfin rfl)
   .cases q
 cases hfr:f.ro with
 | none =>
   rw [hfr] at hR
   cases ro with
   | some b=>exact hR.elim
   | none =>
     refine main (w.alloc (.deferred (some []))) [{ target:=.collected w.heap.size,args:=#[] }] w.heap.size (hr.alloc_free _) (Ext.alloc_free _ _ _ _ _) ⟨⟨w.heap.size,rfl,⟨hB,World.alloc_heap_new w _,fun n e y k1 k2 k3=>?_⟩,fun d' hd' z=>?_⟩,hm.ext (Ext.alloc_free h.nxt _ _ _ _)⟩ ?_
     .have:=(hr.ent n e y k1 k2).lt
      omega
     .have:=Marks.lt hm d' hd' _ z
      omega
     .have:=run_enterLoop_outer (P:=E.P) (w:=w) fnb a.tmps ps asg body
      rw [World.size_alloc]
      exact this
 | some n0 =>
   rw [hfr] at hR hro
   cases ro with
   | none=>exact hR.elim
   | some b0 =>
     obtain ⟨y,hy,hyb⟩:=hR
     subst hyb
     cases hl:getLp h n0 with
     | none=>simp only [roOk,hl,Bool.false_eq_true] at hro
     | some L0 =>
       obtain ⟨_,r0,hb0,_⟩:=getLp_R hr hl hy
       exact main w [] r0.defers hr (Ext.refl _ _ _ _) hm (run_enterLoop_inner hb0 fnb a.tmps ps asg body)
theorem ev_sound [LG] {E:Env} (hE:EnvOk E) (hG:LGOk E):∀ n,RunOk E (ev E n)
 | 0=>fun c f N T h x T' h' hx=>by cases hx
 | n+1=>fun c f N T h x T' h' hx hc ro B θ a w Q hR hB hm ht hN hr hQ=>by
   have ih:=ev_sound hE hG n
   have hcall:∀ h,CallAt E.P (callA E (ev E n)) h.nxt h:=fun h=>call_sound hE hG ih h
   cases c with
   | skip =>
     cases hx
     exact wpIn_skip (hQ θ a w (Ext.refl _ _ _ _) hr ht rfl hm)
   | exit id =>
     cases hx
     exact wpIn_exit (hQ θ a w (Ext.refl _ _ _ _) hr ht rfl hm)
   | ret =>
     cases hx
     exact wpIn_ret (hQ θ a w (Ext.refl _ _ _ _) hr ht rfl hm)
   | seq c1 c2 =>
     simp only [codeOk,Bool.and_eq_true] at hc
     simp only [ev] at hx
     refine wpIn_seq ?_
     split at hx
     .rename_i T1 h1 h2
      refine (ih c1 f N T h _ _ _ h2 hc.1 ro B θ a w _ hR hB hm ht hN hr fun θ1 a1 w1 e1 r1 t1 s1 m1=>?_).wp
      refine (ih c2 f N T1 h1 _ _ _ hx hc.2 ro B θ1 a1 w1 _ (hR.mono e1.keep) (Nat.le_trans hB e1.size) m1 t1 (by rw [s1]; exact hN) r1 fun θ2 a2 w2 e2 r2 t2 s2 m2=>?_).wp
      exact hQ θ2 a2 w2 (e1.trans e2 (fun n hn _ e=>by have:=e1.nxt; omega)) r2 t2 (by rw [s2,s1]) m2
     .rename_i hne
      refine (ih c1 f N T h _ _ _ hx hc.1 ro B θ a w _ hR hB hm ht hN hr fun θ1 a1 w1 e1 r1 t1 s1 m1=>?_).wp
      have hx1:x≠.normal:=fun e=>hne T' h' (by rw [hx,e])
      cases x<;>first | exact absurd rfl hx1 | exact hQ θ1 a1 w1 e1 r1 t1 s1 m1
   | cond c c1 c2 =>
     simp only [codeOk,Bool.and_eq_true] at hc
     simp only [ev] at hx
     split at hx
     .rename_i hv
      exact wpIn_cond_true (opv_W ht hv) (ih c1 f N T h _ _ _ hx hc.1 ro B θ a w _ hR hB hm ht hN hr hQ).wp
     .rename_i hv
      exact wpIn_cond_false (opv_W ht hv) (ih c2 f N T h _ _ _ hx hc.2 ro B θ a w _ hR hB hm ht hN hr hQ).wp
     .cases hx
   | block id c =>
     simp only [codeOk] at hc
     simp only [ev] at hx
     refine wpIn_block ?_
     split at hx
     .rename_i i T1 h1 h2
      refine (ih c f N T h _ _ _ h2 hc ro B θ a w _ hR hB hm ht hN hr fun θ1 a1 w1 e1 r1 t1 s1 m1=>?_).wp
      simp only [Exit.inBlock]
      cases hb:Nat.beq i id<;>simp only [hb,cond_true,cond_false,Option.some.injEq,Prod.mk.injEq] at hx
      .have hne:i≠id:=fun e=>by rw [e] at hb; simp at hb
       rw [if_neg hne]
       obtain ⟨rfl,rfl,rfl⟩:=hx
       exact hQ θ1 a1 w1 e1 r1 t1 s1 m1
      .rw [if_pos (Nat.eq_of_beq_eq_true hb)]
       obtain ⟨rfl,rfl,rfl⟩:=hx
       exact hQ θ1 a1 w1 e1 r1 t1 s1 m1
     .rename_i hne
      refine (ih c f N T h _ _ _ hx hc ro B θ a w _ hR hB hm ht hN hr fun θ1 a1 w1 e1 r1 t1 s1 m1=>?_).wp
      cases x<;>first | exact hQ θ1 a1 w1 e1 r1 t1 s1 m1 | exact absurd hx (hne _ T' h')
   | loop c =>
     simp only [codeOk] at hc
     simp only [ev] at hx
     show InLoop ro E.P c Q a w
     refine InLoop.once ?_
     split at hx
     .rename_i T1 h1 h2
      refine (ih c f N T h _ _ _ h2 hc ro B θ a w _ hR hB hm ht hN hr fun θ1 a1 w1 e1 r1 t1 s1 m1=>?_).wp
      have:=ih (.loop c) f N T1 h1 _ _ _ hx (by simpa [codeOk] using hc) ro B θ1 a1 w1 Q (hR.mono e1.keep) (Nat.le_trans hB e1.size) m1 t1 (by rw [s1]; exact hN) r1 fun θ2 a2 w2 e2 r2 t2 s2 m2=>hQ θ2 a2 w2 (e1.trans e2 (fun n hn _ e=>by have:=e1.nxt; omega)) r2 t2 (by rw [s2,s1]) m2
      exact this
     .rename_i hne
      refine (ih c f N T h _ _ _ hx hc ro B θ a w _ hR hB hm ht hN hr fun θ1 a1 w1 e1 r1 t1 s1 m1=>?_).wp
      have hx1:x≠.normal:=fun e=>hne T' h' (by rw [hx,e])
      cases x<;>first | exact absurd rfl hx1 | exact hQ θ1 a1 w1 e1 r1 t1 s1 m1
   | region id ops draw =>
     simp only [codeOk,Bool.and_eq_true] at hc
     simp only [ev] at hx
     cases draw with
     | true =>
       simp only [cond_true] at hx hc
       split at hx
       .cases hx
       .rename_i pf hpf
        split at hx
        .cases hx
        .rename_i st hst
         split at hx
         .rename_i T1 h1 h2
          cases hx
          have hpl:=hc.2
          rw [hpf] at hpl
          simp only at hpl
          rw [hst] at hpl
          exact draw_sound hE.tt hE.mixed hcall h2 hpl hc.1 ht hN hr fun θ' a' w' e1 r1 t1 s1 d1=>hQ θ' a' w' e1 r1 t1 s1 (by rw [d1]; exact hm.ext e1)
         .cases hx
     | false =>
       simp only [cond_false] at hx
       split at hx
       .rename_i T1 h1 h2
        cases hx
        exact region_sound hE.tt hcall h2 hc.1 ht hN hr fun θ' a' w' e1 r1 t1 s1 d1=>hQ θ' a' w' e1 r1 t1 s1 (by rw [d1]; exact hm.ext e1)
       .cases hx
   | rangeFunc g ps asg body =>
     simp only [ev] at hx
     cases hro:roOk h f.ro<;>simp only [hro,cond_true,cond_false,reduceCtorEq] at hx
     split at hx
     .rename_i it first cap fn hv hfn
      cases hi:(Nat.blt it unkU&&(tget E.ff it).isSome)<;>simp only [hi,cond_true,cond_false,reduceCtorEq] at hx
      simp only [Bool.and_eq_true] at hi
      split at hx
      .rename_i v h1 hcl
       have hT:T'=T:=by
        unfold endA at hx
        obtain ⟨Le,_,q⟩:=ob_some hx
        cases hb:Nat.beq Le.st 1<;>simp only [hb,cond_true,cond_false,reduceCtorEq] at q
        split at q<;>cases q<;>rfl
       subst hT
       exact (range_sound hE hG hcall hc hro hv hfn (blt_lt hi.1) hi.2 hcl hx hR hB hm ht hN hr hQ).2
      .cases hx
     .cases hx
   | _=>cases hx
abbrev lgOf (E:Env):LG:=⟨fun fn N ps asg body=>codeOk E fn N asg=true/\codeOk E fn N body=true/\ps.all (fun t=>Nat.blt t N)=true⟩
theorem lgOf_ok (E:Env) : @LGOk (lgOf E) E:=fun _=>Iff.rfl
theorem run_sound {E:Env} (hE:EnvOk E) {n g:Nat} {fn:Func} {c:Code} (hfn:tget E.ff g=some fn) (hc:fn.body=some c) (hg:g<unkU) {h:Hp} {r:Value} (hx:callA E (ev E n) g [] ⟨.nil,0⟩=some (r,h)) (hp:isPlain r=true) (w:World) :
 Calls E.P g #[] w fun e w'=>e = .returned r/\Below w.heap.size w w':=by
 letI:=lgOf E
 have hr:HR (fun _=>none) ⟨.nil,0⟩ w:=⟨fun n e x q=>(by cases q),fun n m e e' x y q=>(by cases q),fun _ _=>rfl⟩
 rcases (call_sound hE (lgOf_ok E) (ev_sound hE (lgOf_ok E) n) ⟨.nil,0⟩ g [] r h hx (fun _=>none) w [] hr trivial).1 hg with ⟨_,h2⟩ | ⟨u,h1,_,_⟩
 .refine h2.mono fun e w' hq=>?_
  obtain ⟨θ',u,rfl,q1,q2,q3⟩:=hq
  rw [W_plain hp q3]
  exact ⟨rfl,q1.os,q1.tape,q1.output,q1.size,fun k hk=>q1.frame k hk fun n e x q=>by cases q⟩
 .exfalso
  obtain ⟨f1,f2,c',f3,_⟩:=hE.ff g fn hfn
  have f2' : ¬ fn.name = "runtime.NumGoroutine" := fun e => by rw [e] at f2; simp at f2
  simp [callFunc,f1,f2',f3] at h1
def mkTab {α:Type} (l:List (Nat × α)):BT (Option α):=l.foldl (fun m p=>tset m p.1 (some p.2)) .nil
theorem fold_get {α:Type}:∀ (l:List (Nat × α)) (m:BT (Option α)) (t:Nat) (x:α),tget (l.foldl (fun m p=>tset m p.1 (some p.2)) m) t=some x->(t,x)∈l\/tget m t=some x
 | [],m,t,x,h=>.inr h
 | p :: l,m,t,x,h=>by
   rcases fold_get l _ t x h with h1 | h1
   .exact .inl (by simp [h1])
   .rw [tget_tset] at h1
    split at h1
    .rename_i e
     cases h1
     subst e
     exact .inl (by simp)
    .exact .inr h1
theorem mkTab_mem {α:Type} {l:List (Nat × α)} {t:Nat} {x:α} (h:tget (mkTab l) t=some x):(t,x)∈l :=
 (fold_get l .nil t x h).resolve_right (fun q=>by cases q)
def fnsOf (P:Program):List Nat->List (Nat × Func)
 | []=>[]
 | i :: l=>match P.funcs[i]? with
   | some fn=>(i,fn) :: fnsOf P l
   | none=>fnsOf P l
theorem fnsOf_mem {P:Program}:∀ {l:List Nat} {g:Nat} {fn:Func},(g,fn)∈fnsOf P l->P.funcs[g]? = some fn
 | [],g,fn,h=>by cases h
 | i :: l,g,fn,h=>by
   simp only [fnsOf] at h
   split at h
   .rename_i f hf
    rcases List.mem_cons.1 h with e | h
    .cases e; exact hf
    .exact fnsOf_mem h
   .exact fnsOf_mem h
def envOf (P:Program) (ty:List (Nat × TI)) (fs:List Nat) (pl:List (Nat × List (Nat × List Stage))) (xt:List (Nat × Nat)):Env :=
 { P:=P,tt:=mkTab ty,ff:=mkTab (fnsOf P fs),pp:=mkTab (pl.map fun p=>(p.1,mkTab p.2)),xx:=mkTab xt }
def tysOk (P:Program) (ty:List (Nat × TI)):Prop:=ty.map (fun p=>tiOf P p.1)=ty.map fun p=>some p.2
def fnOk (E : Env) (p : Nat × Func) : Bool := !(p.2.name == "runtime.NumGoroutine") && (match p.2.body with
 | some c=>codeOk E p.1 p.2.ntmps c
 | none=>false)
theorem env_ok4 {P:Program} {ty:List (Nat × TI)} {fs:List Nat} {pl:List (Nat × List (Nat × List Stage))} {xt:List (Nat × Nat)} (h1:tysOk P ty) (hm:P.follows .mixedOrders=true) (h2:(fnsOf P fs).all (fnOk (envOf P ty fs pl xt))=true)
 (h3:∀ g,(g,1)∈xt->∀ a b w,(callFunc g #[.string a,.string b]).run P w = .ok (.value (.int .i64 (Extern.BytealgCompare.cmp a b))) w)
 (h4:∀ g,(g,3)∈xt->∀ s c w,(callFunc g #[.string s,.int .u8 c]).run P w = .ok (.value (.int .i64 (idxB s c))) w)
 (h6:∀ g,(g,4)∈xt->Splices P g)
 (h5:∀ g,(g,2)∈xt->∀ w,(callFunc g #[]).run P w = .ok (.enter g #[]) w/\Calls P g #[] w fun e w'=>e = .returned (.bool true)/\Below w.heap.size w w'):EnvOk (envOf P ty fs pl xt):=by
 refine ⟨fun t ti h=>?_,hm,fun g fn h=>?_,fun g h=>h3 g (mkTab_mem h),fun g h=>h4 g (mkTab_mem h),fun g h=>h6 g (mkTab_mem h),fun g h=>h5 g (mkTab_mem h)⟩
 .have hmem:=mkTab_mem h
  exact List.map_inj_left.1 h1 _ hmem
 .have hmem:=mkTab_mem h
  rw [List.all_eq_true] at h2
  have h6:=h2 _ hmem
  unfold fnOk at h6
  simp only [Bool.and_eq_true,Bool.not_eq_true'] at h6
  refine ⟨fnsOf_mem hmem,h6.1,?_⟩
  cases hb:fn.body with
  | none=>rw [hb] at h6; cases h6.2
  | some c=>rw [hb] at h6; exact ⟨c,rfl,h6.2⟩
def saysTrue:Option (Value × Hp)->Bool
 | some (.bool b,_)=>b
 | _=>false
theorem law_true {E:Env} (hE:EnvOk E) {n g:Nat} {fn:Func} (hfn:tget E.ff g=some fn) (hg:g<unkU) (hx:saysTrue (callA E (ev E n) g [] ⟨.nil,0⟩)=true) (w:World) :
 Calls E.P g #[] w fun e w'=>e = .returned (.bool true)/\Below w.heap.size w w':=by
 unfold saysTrue at hx
 split at hx
 .rename_i b h hc
  subst hx
  obtain ⟨_,_,c,hb,_⟩:=hE.ff g fn hfn
  exact run_sound hE hfn hb hg hc rfl w
 .cases hx
end Go.Ev
namespace Go.Ew
open Go.Ev Go.Deep
abbrev OA:=Option Addr
abbrev KH:=Nat->Option Ent
abbrev PQ:=Value->KH->Prop
inductive SV where
 | v (x:Value)
 | q (b:Bool)
 | r (t off:Nat)
def SV.val:SV->Option Value
 | .v x=>some x
 | .q b=>some (.bool b)
 | .r _ _=>none
abbrev TS:=BT (Option SV)
abbrev BX:=BT (Option (List Value))
def opS (T:TS):Operand->Option SV
 | .tmp t=>tget T t
 | .const x=>bif isPlain x then some (.v x) else none
 | .func f=>some (.v (.func (.func f) #[] #[]))
 | .global _=>none
def opW (T:TS) (x:Operand):Option Value:=match opS T x with
 | some s=>s.val
 | none=>none
def opWs (T:TS):List Operand->Option (List Value)
 | []=>some []
 | x :: l=>match opW T x with
   | none=>none
   | some v=>match opWs T l with
     | none=>none
     | some r=>some (v :: r)
def toSV:Value->SV
 | .bool b=>.q b
 | v=>.v v
inductive Sh where
 | int (k:IntKind)
 | bool
 | str
 | slice
 | ptr
 | fn
 | fix (v:Value)
 | fnk
 | yld
 | map
def shOf:Value->Sh
 | .int k _=>.int k
 | .bool _=>.bool
 | .string _=>.str
 | .slice _ _ _=>.slice
 | .pointer _=>.ptr
 | .nilFunc=>.fn
 | .map _=>.map
 | v=>.fix v
def exSh:Sh->(Value->Prop)->Prop
 | .int k,K=>∃ x:Int,K (.int k x)
 | .bool,K=>∃ b:Bool,K (.bool b)
 | .str,K=>∃ s:ByteArray,K (.string s)
 | .slice,K=>∃ (a:OA) (n c:Nat),K (.slice a n c)
 | .ptr,K=>∃ b o:Nat,K (.pointer (some ⟨b,o,none⟩))
 | .fn,K=>∃ g:Nat,K (.func (.func g) #[] #[])
 | .fix v,K=>K v
 | .fnk,K=>∃ (g:Nat) (k:List Value),K (.func (.func g) #[] k.toArray)
 | .yld,K=>∃ l:Nat,K (.func (.yield l) #[] #[])
 | .map,K=>∃ n:Nat,K (.map (some n))
def boolsR (n:Nat) (f:Nat->Bool):List Value:=(List.range n).map fun i=>.bool (f i)
def intsR (k:IntKind) (n:Nat) (f:Nat->Int):List Value:=(List.range n).map fun i=>.int k (f i)
def runB:List Value->Nat
 | .bool _ :: l=>runB l+1
 | _=>0
def kindB (a b:IntKind):Bool:=match a,b with
 | .i8,.i8 | .i16,.i16 | .i32,.i32 | .i64,.i64 | .u8,.u8 | .u16,.u16 | .u32,.u32 | .u64,.u64=>true
 | _,_=>false
def runI (k:IntKind):List Value->Nat
 | .int k' _ :: l=>bif kindB k k' then runI k l+1 else 0
 | _=>0
def exShs1:List Value->(List Value->Prop)->Prop
 | [],K=>K []
 | z :: l,K=>exSh (shOf z) fun v=>exShs1 l fun vs=>K (v :: vs)
def exShsF:Nat->List Value->(List Value->Prop)->Prop
 | 0,l,K=>exShs1 l K
 | n+1,z :: l,K=>match z with
   | .bool _=>bif Nat.ble 64 (runB (z :: l)) then ∃ f:Nat->Bool,exShsF n ((z :: l).drop (runB (z :: l))) fun vs=>K (boolsR (runB (z :: l)) f++vs)
      else exSh (shOf z) fun v=>exShsF n l fun vs=>K (v :: vs)
   | .int k _=>bif Nat.ble 64 (runI k (z :: l)) then ∃ f:Nat->Int,exShsF n ((z :: l).drop (runI k (z :: l))) fun vs=>K (intsR k (runI k (z :: l)) f++vs)
      else exSh (shOf z) fun v=>exShsF n l fun vs=>K (v :: vs)
   | z=>exSh (shOf z) fun v=>exShsF n l fun vs=>K (v :: vs)
 | _,[],K=>K []
def exShs (zs:List Value) (K:List Value->Prop):Prop:=exShsF zs.length zs K
structure ld (H:KH) (a:Addr) (vs:List Value):Prop where
 spot:a.spot=none
 cells:∃ e,H a.block=some e/\rd e.cells a.off vs.length=some vs
structure KH.may (H:KH) (b:Nat):Prop where
 ex:∃ e,H b=some e/\wrB e=true
def KH.put (H:KH) (a:Addr) (vs:List Value):KH:=fun k=>if k=a.block then (H k).map fun e=>⟨wr e.cells a.off vs,e.len,e.unk,none⟩ else H k
def KH.new (H:KH) (nm:Nat) (e:Ent):KH:=fun k=>if k=nm then some e else H k
def KH.del (H:KH) (nm:Nat):KH:=fun k=>if k=nm then none else H k
def KH.load (H:KH) (a:Addr) (n:Nat):Option (List Value):=match a.spot,H a.block with
 | none,some e=>rd e.cells a.off n
 | _,_=>none
def kold (H:KH) (sz:Nat) (a:OA) (n:Nat):Option (List Value):=match a with
 | none=>bif Nat.beq n 0 then some [] else none
 | some a=>match a.spot with
   | none=>H.load a (n*sz)
   | some _=>bif Nat.beq n 0 then some [] else none
def knew (H:KH) (ti:TI):Value->Option (Nat × List Value)
 | .slice none n _=>bif Nat.beq n 0 then some (0,[]) else none
 | .slice (some a) n _=>ob (kold H ti.size (some a) n) fun cs=>some (n,cs)
 | .int .i64 n=>bif decide (0<=n)&&decide (n<=1000000) then some (n.toNat,lrep ti.zero n.toNat) else none
 | _=>none
def kstore (H:KH) (a:Addr) (vs:List Value):Option KH:=match a.spot,H a.block with
 | none,some e=>bif wrB e then match rd e.cells a.off vs.length with
    | some _=>some (H.put a vs)
    | none=>none
   else none
 | _,_=>none
def kappend (H:KH) (nm:Nat) (ti:TI) (a:OA) (len cap:Nat) (n:Nat) (new:List Value):Option (Value × KH) :=
 let need:=len+n
 bif Nat.ble need 1000000&&Nat.ble ti.bytes 1000000&&Nat.ble 1 ti.size then
  bif Nat.blt cap unkU then
   bif Nat.ble need cap then
    match a with
    | none=>bif Nat.beq need 0 then some (.slice none 0 cap,H) else none
    | some b=>ob (kstore H ⟨b.block,b.off+len*ti.size,b.spot⟩ new) fun H'=>some (.slice a need cap,H')
   else
    ob (kold H ti.size a len) fun old=>some (.slice (some ⟨nm,0,none⟩) need unkU,H.new nm (mkEnt (old++new) ti.size))
  else
   match a with
   | none=>none
   | some b=>match H b.block with
     | none=>none
     | some e =>
       bif Nat.beq e.unk ti.size&&Nat.beq b.off ((cap-unkU)*ti.size)&&b.spot.isNone&&wrB e then
        bif Nat.ble (b.off+need*ti.size) e.len then
         ob (kstore H ⟨b.block,b.off+len*ti.size,b.spot⟩ new) fun H'=>some (.slice a need cap,H')
        else
         ob (rd e.cells b.off (len*ti.size)) fun old =>
          some (.slice (some ⟨nm,0,none⟩) need unkU,(H.del b.block).new nm (mkEnt (old++new) ti.size))
       else none
 else none
def kcap (H:KH) (a:Addr) (cap sz:Nat):Option Nat :=
 bif Nat.blt cap unkU then some cap
 else match H a.block with
  | none=>none
  | some e=>bif Nat.beq e.unk sz&&Nat.beq a.off ((cap-unkU)*sz)&&Nat.ble 1 sz&&Nat.ble a.off e.len then some ((e.len-a.off)/sz) else none
def kslice (H:KH) (sz:Nat) (a:OA) (len cap:Nat) (lo hi:Option Value):Option Value:=match a with
 | none=>match natOf 0 lo,natOf len hi with
   | some 0,some 0=>some (.slice none 0 cap)
   | _,_=>none
 | some b=>bif b.spot.isNone then match natOf 0 lo,natOf len hi,kcap H b cap sz with
   | some l,some u,some c =>
     bif Nat.ble l u&&Nat.ble u c&&Nat.ble len c&&b.spot.isNone then
      bif Nat.blt cap unkU then some (.slice (some (bif Nat.beq cap l then b else ⟨b.block,b.off+l*sz,none⟩)) (u-l) (cap-l))
      else bif Nat.blt l c then some (.slice (some ⟨b.block,b.off+l*sz,none⟩) (u-l) (cap+l)) else bif Nat.beq l 0 then some (.slice a u cap) else some vague
     else none
   | _,_,_=>none
   else match natOf 0 lo,natOf len hi with
   | some 0,some 0=>some (.slice a 0 cap)
   | _,_=>none
structure Does (E:Env) (g:Nat) (args:List Value) (H:KH) (Q:PQ):Prop where
 lt:g<unkU
 run:∀ h:Hp,(∀ k,h.nxt<=k->tget h.m k=none)->(∀ k e,H k=some e->tget h.m k=some e)->
  ∃ v h' H',(∃ n,∀ m,n<=m->callA E (ev E m) g args h=some (v,h'))/\Q v H'/\
   (∀ k,h'.nxt<=k->tget h'.m k=none)/\(∀ k e,H' k=some e->tget h'.m k=some e)/\
   h.nxt<=h'.nxt/\(∀ k,k<h.nxt->H k=none->tget h'.m k=tget h.m k)/\(∀ k,H' k≠none->H k≠none\/h.nxt<=k)
structure DoesR (E:Env) (l:Nat) (args:List Value) (H:KH) (Q:PQ):Prop where
 run:∀ h:Hp,(∀ k,h.nxt<=k->tget h.m k=none)->(∀ k e,H k=some e->tget h.m k=some e)->
  ∃ v h' H',(∃ n,∀ m,n<=m->callA E (ev E m) (unkU+l) args h=some (v,h'))/\Q v H'/\
   (∀ k,h'.nxt<=k->tget h'.m k=none)/\(∀ k e,H' k=some e->tget h'.m k=some e)/\
   h.nxt<=h'.nxt/\(∀ k,k<h.nxt->H k=none->tget h'.m k=tget h.m k)/\(∀ k,H' k≠none->H k≠none\/h.nxt<=k)
def lpE (L:Lp) (st:Nat) (pend:Option Code):Ent:=⟨.nil,0,0,some (.loop ⟨L.fn,L.N,L.ps,L.asg,L.body,L.ts,st,pend⟩)⟩
structure FnIn (E:Env) (g:Nat):Prop where
 h:(tget E.ff g).isSome=true
inductive LV where
 | tmp (t:Nat) (s:Sh)
 | agg (t:Nat) (zs:List Value)
 | ref (t b off:Nat)
 | box (b:Nat) (zs:List Value)
structure WE where
 E:Env
 tup:BT (Option (List Nat))
 loc:List Nat
 lv:BT (Option (List LV))
 f:Nat
def askB (s:Option SV) (yes no:SV->Prop):Prop:=match s with
 | some (.v (.bool true))=>yes (.v (.bool true))
 | some (.v (.bool false))=>no (.v (.bool false))
 | some (.q b)=>(b=true->yes (.v (.bool true)))/\(b=false->no (.v (.bool false)))
 | _=>False
def cmpS (op:BinOp) (x y:Int) (K:SV->Prop):Prop:=match op with
 | .eql=>K (.q (decide (x=y)))
 | .neq=>K (.q (decide (x≠y)))
 | .lss=>K (.q (decide (x<y)))
 | .leq=>K (.q (decide (x<=y)))
 | .gtr=>K (.q (decide (y<x)))
 | .geq=>K (.q (decide (y<=x)))
 | _=>False
def andI (k:IntKind) (x y:Int):Int:=k.wrap (BitVec.ofInt k.bits x &&& BitVec.ofInt k.bits y).toNat
def orI (k:IntKind) (x y:Int):Int:=k.wrap (BitVec.ofInt k.bits x ||| BitVec.ofInt k.bits y).toNat
def binI (op:BinOp) (k:IntKind) (x y:Int) (K:SV->Prop):Prop:=match op with
 | .add=>K (.v (.int k (k.wrap (x+y))))
 | .sub=>K (.v (.int k (k.wrap (x-y))))
 | .mul=>K (.v (.int k (k.wrap (x*y))))
 | .quo=>y≠0/\K (.v (.int k (k.wrap (x.tdiv y))))
 | .rem=>y≠0/\K (.v (.int k (x.tmod y)))
 | .shr=>0<=y/\K (.v (.int k (x.fdiv (2 ^ (min y.toNat k.bits)))))
 | .shl=>0<=y/\K (.v (.int k (k.wrap (x*2 ^ (min y.toNat k.bits)))))
 | .and=>K (.v (.int k (andI k x y)))
 | .or=>K (.v (.int k (orI k x y)))
 | op=>cmpS op x y K
def shI (op:BinOp) (k:IntKind) (x y:Int) (K:SV->Prop):Prop:=match op with
 | .shr=>0<=y/\K (.v (.int k (x.fdiv (2 ^ (min y.toNat k.bits)))))
 | .shl=>0<=y/\K (.v (.int k (k.wrap (x*2 ^ (min y.toNat k.bits)))))
 | _=>False
def isKind (E:Env) (t:TypeId) (k:Nat):Bool:=match tget E.tt t with
 | some ti=>Nat.beq ti.kind k
 | none=>false
def strEq (x y:ByteArray):Bool:=x.toList == y.toList
def strLt (x y:ByteArray):Bool:=Op.bytesLess x.toList y.toList
def eqInts:List Value->List Value->Option Bool
 | [],[]=>some true
 | .int k a :: l,.int k' b :: m=>bif kindB k k' then (match eqInts l m with
   | some r=>some (decide (a=b)&&r)
   | none=>none) else none
 | _,_=>none
def arrK (E:Env) (t:TypeId) (n:Nat):Bool:=match tget E.tt t with
 | some ti=>Nat.beq ti.kind 2&&(Nat.beq ti.alen n&&(match tget E.tt ti.elem with
   | some ei=>(Nat.beq ei.kind 5||Nat.beq ei.kind 6)&&Nat.beq ei.size 1
   | none=>false))
 | none=>false
def eqC:Value->Value->Option Bool
 | .int k a,.int k' b=>bif kindB k k' then some (decide (a=b)) else none
 | .string a,.string b=>some (strEq a b)
 | .bool a,.bool b=>some (a == b)
 | _,_=>none
def eqCs:List Value->List Value->Option Bool
 | [],[]=>some true
 | x :: l,y :: m=>match eqC x y with
   | some r=>(match eqCs l m with
     | some s=>some (r&&s)
     | none=>none)
   | none=>none
 | _,_=>none
def fitC:Option TypeDesc->Value->Bool
 | some (.int _),.int _ _=>true
 | some .string,.string _=>true
 | some .bool,.bool _=>true
 | _,_=>false
def fldC (P:Program):List Field->Nat->List Value->Bool
 | [],_,[]=>true
 | f :: l, i, x :: xs => Nat.beq f.offset i && (!(f.name == "_") && (fitC (P.underlying f.type) x && fldC P l (i + 1) xs))
 | _,_,_=>false
def strK (P:Program) (t:TypeId) (xs:List Value):Bool:=match P.underlying t with
 | some (.struct fs)=>!(P.stoodInHeld t)&&fldC P fs.toList 0 xs
 | _=>false
def eqArr (op:BinOp) (r:Option Bool) (K:SV->Prop):Prop:=match r with
 | some r=>(match op with
   | .eql=>K (.q r)
   | .neq=>K (.q (!r))
   | _=>False)
 | none=>False
def binS (E:Env) (op:BinOp) (t:TypeId) (a b:Option Value) (K:SV->Prop):Prop:=match a,b with
 | some (.int k x),some (.int l y)=>bif kindB k l then binI op k x y K else shI op k x y K
 | some (.bool x),some (.bool y)=>bif isKind E t 9 then (match op with
   | .eql=>K (.q (x == y))
   | .neq=>K (.q (!(x == y)))
   | _=>False) else False
 | some (.string x),some (.string y)=>match op with
   | .eql=>K (.q (strEq x y))
   | .neq=>K (.q (!(strEq x y)))
   | .lss=>K (.q (strLt x y))
   | .leq=>K (.q (strLt x y||strEq x y))
   | .gtr=>K (.q (!(strLt x y||strEq x y)))
   | .geq=>K (.q (!(strLt x y)))
   | .add=>(x.size+y.size<=1000000)/\K (.v (.string (x++y)))
   | _=>False
 | some (.slice x _ _),some (.slice none _ _)=>bif isKind E t 1 then (match op with
   | .eql=>K (.q x.isNone)
   | .neq=>K (.q (!x.isNone))
   | _=>False) else False
 | some (.agg xs),some (.agg ys)=>bif arrK E t xs.toList.length then eqArr op (eqInts xs.toList ys.toList) K else bif strK E.P t xs.toList then eqArr op (eqCs xs.toList ys.toList) K else False
 | _,_=>False
def wIdx (W:WE) (T:TS) (t:TypeId) (x ix:Operand) (K:SV->Prop):Prop:=match opW T x,opW T ix,tget W.E.tt t with
 | some (.slice a len _),some (.int _ i),some ti=>match tget W.E.tt ti.elem with
   | some ei=>bif Nat.beq ti.kind 1 then (0<=i/\i<len)/\∃ b o,a=some ⟨b,o,none⟩/\K (.v (.pointer (some ⟨b,o+i.toNat*ei.size,none⟩))) else False
   | none=>False
 | some (.pointer (some ad)),some (.int _ i),some ti=>match tget W.E.tt ti.elem with
   | some ei=>bif Nat.beq ti.kind 2 then (0<=i/\i<ti.alen)/\ad.spot=none/\K (.v (.pointer (some ⟨ad.block,ad.off+i.toNat*ei.size,none⟩))) else False
   | none=>False
 | _,_,_=>False
def intOf (d:Int):Option Value->Option Int
 | none=>some d
 | some (.int _ i)=>some i
 | some _=>none
def strCut (s:ByteArray) (l u:Int):ByteArray:=s.extract l.toNat u.toNat
def byteAt (s:ByteArray) (i:Nat):Int:=((s.data.toList[i]?).getD 0).toNat
def wField (W:WE) (T:TS) (s:TypeId) (x:Operand) (f:Nat) (K:SV->Prop):Prop:=match tget W.E.tt s with
 | none=>False
 | some ti=>match ti.flds[f]? with
   | none=>False
   | some fl=>bif Nat.beq ti.kind 3&&!(Nat.beq fl.2 0) then
      match opS T x with
      | some (.r b off)=>K (.r b (off+fl.1))
      | some (.v (.pointer (some ad)))=>ad.spot=none/\K (.v (.pointer (some ⟨ad.block,ad.off+fl.1,none⟩)))
      | _=>False
     else False
def wLoad (W:WE) (T:TS) (B:BX) (H:KH) (t:TypeId) (a:Operand) (K:SV->Prop):Prop:=match opS T a,tget W.E.tt t with
 | some (.r b off),some ti=>match tget B b with
   | none=>False
   | some cs=>bif Nat.ble (off+ti.size) cs.length then
      (bif ti.agg then K (.v (.agg ((cs.drop off).take ti.size).toArray)) else match cs[off]? with
        | some v=>K (toSV v)
        | none=>False)
     else False
 | some (.v (.pointer (some ad))),some ti=>bif ti.agg then (bif Nat.beq ti.zero.length ti.size then exShs ti.zero fun vs=>ld H ad vs/\K (.v (.agg vs.toArray)) else False) else (match ti.zero with
    | [z]=>exSh (shOf z) fun v=>ld H ad [v]/\K (toSV v)
    | _=>False)
 | _,_=>False
def wStore (W:WE) (T:TS) (B:BX) (H:KH) (t:TypeId) (a x:Operand) (K:BX->KH->Prop):Prop:=match opS T a,opW T x,tget W.E.tt t with
 | some (.r b off),some v,some ti=>match tget B b,cellsA v with
   | some cs,some vs=>bif Nat.beq vs.length ti.size&&Nat.ble (off+vs.length) cs.length then K (tset B b (some (lput cs off vs))) H else False
   | _,_=>False
 | some (.v (.pointer (some ad))),some v,some ti=>match cellsA v with
   | some vs=>bif Nat.beq vs.length ti.size then (∃ ws:List Value,ws.length=vs.length/\ld H ad ws)/\H.may ad.block/\K B (H.put ad vs) else False
   | none=>False
 | _,_,_=>False
def opWo (T:TS):Option Operand->Option (Option Value)
 | none=>some none
 | some x=>match opW T x with
   | some v=>some (some v)
   | none=>none
def wRes (W:WE) (t:TypeId) (v:Value) (K:SV->Prop):Prop:=match tget W.tup t with
 | some []=>v = .tuple #[]/\K (.v (.tuple #[]))
 | some ts=>go ts [] K
 | none=>match tget W.E.tt t with
   | none=>False
   | some ti=>bif ti.agg then exShs ti.zero fun vs=>v = .agg vs.toArray/\K (.v (.agg vs.toArray)) else (match ti.zero with
     | [z]=>exSh (bif Nat.beq ti.kind 8 then .fnk else shOf z) fun u=>v=u/\K (toSV u)
     | _=>False)
 where go:List Nat->List Value->(SV->Prop)->Prop
 | [],acc,K=>v = .tuple acc.reverse.toArray/\K (.v (.tuple acc.reverse.toArray))
 | t :: l,acc,K=>match tget W.E.tt t with
   | none=>False
   | some ti=>bif ti.agg then exShs ti.zero fun vs=>go l (.agg vs.toArray :: acc) K else (match ti.zero with
     | [z]=>exSh (shOf z) fun u=>go l (u :: acc) K
     | _=>False)
def wBuiltin (W:WE) (b:Builtin) (tys:List TypeId) (args:List Value) (H:KH) (nm:(Nat->Prop)->Prop) (K:SV->KH->Prop):Prop:=match b,args with
 | .len,[.slice _ n _]=>match tys with
   | [t]=>match tget W.E.tt t with
     | some ti=>bif Nat.beq ti.kind 1 then K (.v (.int .i64 n)) H else False
     | none=>False
   | _=>False
 | .len,[.string s]=>match tys with
   | [t]=>match tget W.E.tt t with
     | some ti=>bif Nat.beq ti.kind 4 then K (.v (.int .i64 s.size)) H else False
     | none=>False
   | _=>False
 | .cap,[.slice _ _ c]=>match tys with
   | [t]=>match tget W.E.tt t with
     | some ti=>bif Nat.beq ti.kind 1 then c<unkU/\K (.v (.int .i64 c)) H else False
     | none=>False
   | _=>False
 | .min,[.int k x,.int _ y]=>K (.v (.int k (min x y))) H
 | .max,[.int k x,.int _ y]=>K (.v (.int k (max x y))) H
 | .append,[.slice a len cap,x]=>match tys with
   | [t,u]=>match tget W.E.tt t,tget W.E.tt u with
     | some ti,some ui=>match tget W.E.tt ti.elem with
       | some ei=>bif Nat.beq ti.kind 1&&appK ui.kind x&&Nat.beq ei.zero.length ei.size then
          nm fun nm=>∃ n cs,knew H ei x=some (n,cs)/\∃ a' l' c' H',kappend H nm ei a len cap n cs=some (.slice a' l' c',H')/\K (.v (.slice a' l' c')) H'
         else False
       | none=>False
     | _,_=>False
   | _=>False
 | _,_=>False
def partsS (T:TS) (pl:Nat->Option (Nat × Nat)):List (Nat × Operand)->Option (List (Nat × Nat × Value))
 | []=>some []
 | (i,x) :: l=>match pl i,opW T x,partsS T pl l with
  | some (off,sz),some v,some r=>some ((off,sz,v) :: r)
  | _,_,_=>none
def wBuild (W:WE) (T:TS) (t:TypeId) (parts:List (Nat × Operand)) (K:SV->Prop):Prop:=match tget W.E.tt t with
 | none=>False
 | some ti=>bif Nat.beq ti.kind 3 then
    match partsS T (fun i=>ti.flds[i]?) parts with
    | some ps=>match fillA ti.zero ps with
      | some cs=>K (.v (.agg cs.toArray))
      | none=>False
    | none=>False
   else bif Nat.beq ti.kind 2 then
    match tget W.E.tt ti.elem with
    | none=>False
    | some ei=>match partsS T (fun i=>some (i*ei.size,ei.size)) parts with
      | some ps=>match fillA ti.zero ps with
        | some cs=>K (.v (.agg cs.toArray))
        | none=>False
      | none=>False
   else False
def wBuildSlice (W:WE) (T:TS) (t:TypeId) (len:Nat) (parts:List (Nat × Operand)) (K:List Value->Prop):Prop:=match tget W.E.tt t with
 | none=>False
 | some ti=>match tget W.E.tt ti.elem with
   | none=>False
   | some ei=>bif Nat.beq ti.kind 1&&Nat.ble (len*ei.size) 16777216&&Nat.ble len 16777216&&Nat.beq ei.zero.length ei.size then
      match partsS T (fun i=>some (i*ei.size,ei.size)) parts with
      | some ps=>match fillA (lrep ei.zero len) ps with
        | some cs=>K cs
        | none=>False
      | none=>False
     else False
def purge (d:Nat) (T:TS):TS:=match T with
 | .nil=>.nil
 | .node a b x l r=>.node a b (match x with
    | some (.r t o)=>bif Nat.beq t d then none else some (.r t o)
    | x=>x) (purge d l) (purge d r)
def isLoc (W:WE) (d:Option Tmp):Option Nat:=match d with
 | none=>none
 | some d=>bif memN d W.loc then some d else none
def mpE (es:List (Value × Value)):Ent:=⟨.nil,0,0,some (.mp es)⟩
structure mpAt (H:KH) (n:Nat) (es:List (Value × Value)):Prop where
 h:H n=some (mpE es)
structure NoKey (E:Env) (kt et:TypeId) (es:List (Value × Value)) (k z:Value):Prop where
 good:keyGood E.P es.isEmpty kt k=true
 find:kFind E.P kt k es 0=some none
 zero:srun E.P (zeroValue et)=some z
structure HasKey (E:Env) (kt:TypeId) (es:List (Value × Value)) (k v:Value):Prop where
 good:keyGood E.P es.isEmpty kt k=true
 find:∃ i,kFind E.P kt k es 0=some (some (i,v))
structure UpdIs (E:Env) (kt:TypeId) (es:List (Value × Value)) (k v:Value) (es':List (Value × Value)):Prop where
 good:keyGood E.P false kt k=true
 is:(kFind E.P kt k es 0=some none/\es'=es++[(k,v)])\/∃ i u p,kFind E.P kt k es 0=some (some (i,u))/\es[i]? = some p/\Instr.sameBits 10000 p.1 k=true/\es'=es.set i (k,v)
def wLook (W:WE) (H:KH) (t:TypeId) (x ix:Option Value) (ok:Bool) (K:SV->Prop):Prop:=match x,ix,tget W.E.tt t with
 | some (.map (some n)),some k,some mt=>match tget W.E.tt mt.elem with
   | some ei=>bif Nat.beq mt.kind 10&&!ei.agg then (match ei.zero with
     | [z]=>∃ es,mpAt H n es/\((NoKey W.E mt.alen mt.elem es k z/\bif ok then K (.v (.tuple #[z,.bool false])) else K (toSV z))\/
        exSh (shOf z) fun v=>HasKey W.E mt.alen es k v/\bif ok then K (.v (.tuple #[v,.bool true])) else K (toSV v))
     | _=>False) else False
   | none=>False
 | _,_,_=>False
def wUpd (W:WE) (H:KH) (t:TypeId) (m k x:Option Value) (K:KH->Prop):Prop:=match m,k,x,tget W.E.tt t with
 | some (.map (some n)),some k,some v,some mt=>bif Nat.beq mt.kind 10&&!(isTup v) then
    ∃ es es',mpAt H n es/\UpdIs W.E mt.alen es k v es'/\K (H.new n (mpE es'))
   else False
 | _,_,_,_=>False
def wOp (W:WE) (nm:(Nat->Prop)->Prop) (o:Oper) (T:TS) (B:BX) (H:KH) (K:TS->SV->BX->KH->Prop):Prop:=match o.op with
 | .move x=>match opS T x with
   | some s=>K T s B H
   | none=>False
 | .assign x=>match opS T x with
   | some s=>K T s B H
   | none=>False
 | .pick c a b=>askB (opS T c) (fun _=>match opS T a with
    | some s=>K T s B H
    | none=>False) (fun _=>match opS T b with
    | some s=>K T s B H
    | none=>False)
 | .alloc t=>match tget W.E.tt t with
   | none=>False
   | some ti=>match isLoc W o.dst with
     | some d=>K (purge d T) (.r d 0) (tset B d (some ti.zero)) H
     | none=>nm fun nm=>K T (.v (.pointer (some ⟨nm,0,none⟩))) B (H.new nm (mkEnt ti.zero 0))
 | .box _ x=>match opW T x with
   | none=>False
   | some v=>match cellsA v with
     | none=>False
     | some cs=>match isLoc W o.dst with
       | some d=>K (purge d T) (.r d 0) (tset B d (some cs)) H
       | none=>nm fun nm=>K T (.v (.pointer (some ⟨nm,0,none⟩))) B (H.new nm (mkEnt cs 0))
 | .build t parts=>wBuild W T t parts.toList fun s=>K T s B H
 | .buildSlice t len parts=>wBuildSlice W T t len parts.toList fun cs=>nm fun nm=>K T (.v (.slice (some ⟨nm,0,none⟩) len len)) B (H.new nm (mkEnt cs 0))
 | .load t a=>wLoad W T B H t a fun s=>K T s B H
 | .store t a x=>wStore W T B H t a x fun B H=>K T (.v undefV) B H
 | .nilCheck x=>match opS T x with
   | some (.r b o)=>K T (.r b o) B H
   | some (.v (.pointer (some ad)))=>K T (.v (.pointer (some ad))) B H
   | _=>False
 | .binOp op t x y _=>binS W.E op t (opW T x) (opW T y) fun s=>K T s B H
 | .unOp op _ x=>match op,opW T x with
   | .not,some (.bool b)=>K T (.q (!b)) B H
   | .neg,some (.int k n)=>K T (.v (.int k (k.wrap (0-n)))) B H
   | _,_=>False
 | .convert s d x=>match opW T x,W.E.P.underlying s,W.E.P.underlying d with
   | some (.int _ n),some _,some (.int k)=>K T (.v (.int k (k.wrap n))) B H
   | some (.slice a len _),_,_=>match tget W.E.tt d,tget W.E.tt s with
     | some ti,some si=>match tget W.E.tt si.elem with
       | some ei=>bif Nat.beq ti.kind 4&&Nat.beq si.kind 1&&Nat.beq ei.kind 6 then
          ∃ (cs:List Value) (bs:List UInt8),kold H 1 a len=some cs/\bytesOfCells cs=some bs/\K T (.v (.string ⟨bs.toArray⟩)) B H
         else False
       | none=>False
     | _,_=>False
   | _,_,_=>False
 | .makeFunc fn first cap=>match fn,opWs T first.toList,opWs T cap.toList with
   | .func g,some vs,some us=>bif vs.all capOk&&us.all capOk then K T (.v (.func (.func g) vs.toArray us.toArray)) B H else False
   | _,_,_=>False
 | .makeSlice t l c=>match opW T l,opW T c,tget W.E.tt t with
   | some (.int _ n),some (.int _ k),some ti=>match tget W.E.tt ti.elem with
     | some ei=>bif Nat.beq ti.kind 1&&Nat.ble ei.bytes 1000000&&Nat.beq ei.zero.length ei.size then
        (0<=n/\n<=k/\k<=1000000)/\nm fun nm=>K T (.v (.slice (some ⟨nm,0,none⟩) n.toNat k.toNat)) B (H.new nm (mkEnt (lrep ei.zero k.toNat) 0))
       else False
     | none=>False
   | _,_,_=>False
 | .slice t x lo hi mx=>match opW T x,tget W.E.tt t,opWo T lo,opWo T hi,mx with
   | some (.slice a len cap),some ti,some lo,some hi,none=>match tget W.E.tt ti.elem with
     | some ei=>bif Nat.beq ti.kind 1 then ∃ a' l' c',kslice H ei.size a len cap lo hi=some (.slice a' l' c')/\K T (.v (.slice a' l' c')) B H else False
     | none=>False
   | some (.string s),some _,some lo,some hi,none=>match intOf 0 lo,intOf s.size hi,W.E.P.underlying t with
     | some l,some u,some .string=>(0<=l/\l<=u/\u<=s.size)/\K T (.v (.string (strCut s l u))) B H
     | _,_,_=>False
   | _,_,_,_,_=>False
 | .fieldAddr s x f=>wField W T s x f fun s=>K T s B H
 | .indexAddr t x ix=>wIdx W T t x ix fun s=>K T s B H
 | .index t x ix=>match opW T x,opW T ix,W.E.P.underlying t with
   | some (.string s),some (.int _ i),some .string=>(0<=i/\i<s.size)/\K T (.v (.int .u8 (byteAt s i.toNat))) B H
   | _,_,_=>False
 | .extract t i=>match opW T t with
   | some (.tuple vs)=>match vs.toList[i]? with
     | some v=>K T (toSV v) B H
     | none=>False
   | _=>False
 | .makeMap _ r=>match r with
   | none=>nm fun nm=>K T (.v (.map (some nm))) B (H.new nm (mpE []))
   | some _=>False
 | .lookup t x ix ok=>wLook W H t (opW T x) (opW T ix) ok fun s=>K T s B H
 | .mapUpdate t m k x=>wUpd W H t (opW T m) (opW T k) (opW T x) fun H=>K T (.v undefV) B H
 | .call c=>match c.callee with
   | .value f=>match opW T f,opWs T c.args.toList with
     | some (.func (.func g) first cap),some vs=>Does W.E g (first.toList++vs++cap.toList) H fun v H'=>wRes W o.type v fun s=>K T s B H'
     | some (.func (.yield l) _ _),some vs=>DoesR W.E l vs H fun v H'=>wRes W o.type v fun s=>K T s B H'
     | _,_=>False
   | .builtin b=>match opWs T c.args.toList with
     | some vs=>wBuiltin W b c.argTypes.toList vs H nm fun s H'=>K T s B H'
     | none=>False
   | _=>False
 | _=>False
def putS (T:TS) (dst:Option Tmp) (s:SV):TS:=match dst with
 | none=>T
 | some d=>tset T d (some s)
def isUndef:Option SV->Bool
 | some (.v (.tuple vs))=>Nat.beq vs.toList.length 0
 | _=>false
def wWant (ops:Array Oper) (o:Oper) (T:TS) (yes no:TS->Prop):Prop:=match o.guard with
 | none=>yes T
 | some (j,want)=>match (ops[j]?).bind (·.dst) with
   | none=>False
   | some d=>bif isUndef (tget T d) then no T else match want with
     | true=>askB (tget T d) (fun s=>yes (tset T d (some s))) (fun s=>no (tset T d (some s)))
     | false=>askB (tget T d) (fun s=>no (tset T d (some s))) (fun s=>yes (tset T d (some s)))
def strArg (W:WE) (o:Oper) (T:TS):Option ByteArray:=match o.op with
 | .convert s d x=>match opW T x with
   | some (.string b)=>match tget W.E.tt d,tget W.E.tt s with
     | some ti,some _=>bif Nat.beq ti.kind 1 then (match tget W.E.tt ti.elem with
       | some ei=>bif Nat.beq ei.kind 6&&Nat.beq ei.size 1 then some b else none
       | none=>none) else none
     | _,_=>none
   | _=>none
 | _=>none
def wOpB (W:WE) (nm:(Nat->Prop)->Prop) (o:Oper) (T:TS) (B:BX) (H:KH) (K:TS->SV->BX->KH->Prop):Prop:=match strArg W o T with
 | some s=>s.size<=1000000/\nm fun nm=>K T (.v (.slice (some ⟨nm,0,none⟩) s.size unkU)) B (H.new nm (mkEnt (byteCells s) 1))
 | none=>wOp W nm o T B H K
def anyNm (H:KH) (k:Nat->Prop):Prop:=∀ nm,H nm=none->k nm
def wOps (W:WE) (ops:Array Oper):List Oper->TS->BX->KH->(TS->BX->KH->Prop)->Prop
 | [],T,B,H,K=>K T B H
 | o :: l,T,B,H,K=>wWant ops o T
    (fun T=>wOpB W (anyNm H) o T B H fun T s B H=>wOps W ops l (putS T o.dst s) B H K)
    (fun T=>wOps W ops l (putS T o.dst (.v undefV)) B H K)
def ShT:Sh->Type->Type
 | .int _,R=>Int->R
 | .bool,R=>Bool->R
 | .str,R=>ByteArray->R
 | .slice,R=>OA->Nat->Nat->R
 | .ptr,R=>Nat->Nat->R
 | .fn,R=>Nat->R
 | .fix _,R=>R
 | .fnk,R=>Nat->List Value->R
 | .yld,R=>Nat->R
 | .map,R=>Nat->R
def ShsT:List Value->Type->Type
 | [],R=>R
 | z :: l,R=>ShT (shOf z) (ShsT l R)
def IT:List LV->Type
 | []=>KH->Prop
 | .tmp _ s :: l=>ShT s (IT l)
 | .agg _ zs :: l=>ShsT zs (IT l)
 | .ref _ _ _ :: l=>IT l
 | .box _ zs :: l=>ShsT zs (IT l)
def bindS (R:Type):(s:Sh)->ShT s R->(Value->R->Prop)->Prop
 | .int k,f,K=>∀ x:Int,K (.int k x) (f x)
 | .bool,f,K=>∀ b:Bool,K (.bool b) (f b)
 | .str,f,K=>∀ s:ByteArray,K (.string s) (f s)
 | .slice,f,K=>∀ (a:OA) (n c:Nat),K (.slice a n c) (f a n c)
 | .ptr,f,K=>∀ b o:Nat,K (.pointer (some ⟨b,o,none⟩)) (f b o)
 | .fn,f,K=>∀ g:Nat,K (.func (.func g) #[] #[]) (f g)
 | .fix v,f,K=>K v f
 | .fnk,f,K=>∀ (g:Nat) (k:List Value),K (.func (.func g) #[] k.toArray) (f g k)
 | .yld,f,K=>∀ l:Nat,K (.func (.yield l) #[] #[]) (f l)
 | .map,f,K=>∀ n:Nat,K (.map (some n)) (f n)
def bindSs (R:Type):(zs:List Value)->ShsT zs R->(List Value->R->Prop)->Prop
 | [],f,K=>K [] f
 | z :: l,f,K=>bindS (ShsT l R) (shOf z) f fun v f=>bindSs R l f fun vs f=>K (v :: vs) f
def bindL:(l:List LV)->IT l->TS->BX->((KH->Prop)->TS->BX->Prop)->Prop
 | [],I,T,B,K=>K I T B
 | .tmp t s :: l,I,T,B,K=>bindS (IT l) s I fun v I=>bindL l I (tset T t (some (toSV v))) B K
 | .agg t zs :: l,I,T,B,K=>bindSs (IT l) zs I fun vs I=>bindL l I (tset T t (some (.v (.agg vs.toArray)))) B K
 | .ref t b o :: l,I,T,B,K=>bindL l I (tset T t (some (.r b o))) B K
 | .box b zs :: l,I,T,B,K=>bindSs (IT l) zs I fun vs I=>bindL l I T (tset B b (some vs)) K
def fixB:Value->Value->Bool
 | .nilIface,.nilIface=>true
 | .nilFunc,.nilFunc=>true
 | _,_=>false
def useS (R:Type):(s:Sh)->ShT s R->Value->(R->Prop)->Prop
 | .int k,f,.int k' x,K=>bif kindB k k' then K (f x) else False
 | .bool,f,.bool b,K=>K (f b)
 | .str,f,.string s,K=>K (f s)
 | .slice,f,.slice a n c,K=>K (f a n c)
 | .ptr,f,.pointer (some ad),K=>ad.spot=none/\K (f ad.block ad.off)
 | .fn,f,.func (.func g) a b,K=>bif Nat.beq a.toList.length 0&&Nat.beq b.toList.length 0 then K (f g) else False
 | .fix v,f,u,K=>bif fixB v u then K f else False
 | .fnk,f,.func (.func g) a b,K=>bif Nat.beq a.toList.length 0 then K (f g b.toList) else False
 | .yld,f,.func (.yield l) a b,K=>bif Nat.beq a.toList.length 0&&Nat.beq b.toList.length 0 then K (f l) else False
 | .map,f,.map (some n),K=>K (f n)
 | _,_,_,_=>False
def useSs (R:Type):(zs:List Value)->ShsT zs R->List Value->(R->Prop)->Prop
 | [],f,[],K=>K f
 | z :: l,f,v :: vs,K=>useS (ShsT l R) (shOf z) f v fun f=>useSs R l f vs K
 | _,_,_,_=>False
def useL:(l:List LV)->IT l->TS->BX->KH->Prop
 | [],I,_,_,H=>I H
 | .tmp t s :: l,I,T,B,H=>match opW T (.tmp t) with
   | some v=>useS (IT l) s I v fun I=>useL l I T B H
   | none=>False
 | .agg t zs :: l,I,T,B,H=>match opW T (.tmp t) with
   | some (.agg cs)=>useSs (IT l) zs I cs.toList fun I=>useL l I T B H
   | _=>False
 | .ref t b o :: l,I,T,B,H=>match tget T t with
   | some (.r b' o')=>bif Nat.beq b b'&&Nat.beq o o' then useL l I T B H else False
   | _=>False
 | .box b zs :: l,I,T,B,H=>match tget B b with
   | some cs=>useSs (IT l) zs I cs fun I=>useL l I T B H
   | none=>False
def okS0:Value->Bool
 | .bool _ | .int _ _ | .string _ | .pointer _ | .slice _ _ _ | .nilFunc | .nilIface | .map _=>true
 | _=>false
def okV:Value->Bool
 | .agg cs=>cs.toList.all okS0
 | .func (.func _) a b=>a.toList.all okS0&&b.toList.all okS0
 | v=>okS0 v
def sameS:SV->Option SV->Prop
 | .v x,some (.v y)=>bif okV y then x=y else False
 | .v x,some (.q b)=>x = .bool b
 | .q a,some (.q b)=>a=b
 | .q a,some (.v y)=>bif okV y then Value.bool a=y else False
 | .r b o,some (.r b' o')=>b=b'/\o=o'
 | _,_=>False
def noNm (_:Nat->Prop):Prop:=False
def wRe (W:WE) (ops:Array Oper) (T:TS) (B:BX) (H:KH):List Nat->Prop
 | []=>True
 | i :: l=>match ops[i]? with
   | none=>False
   | some o=>(bif silB o.op then wWant ops o T (fun T=>wOp W noNm o T B H fun _ s _ _=>match o.dst with
      | some d=>sameS s (tget T d)
      | none=>True) (fun T=>match o.dst with
      | some d=>bif isUndef (tget T d) then True else False
      | none=>True) else False)/\wRe W ops T B H l
def nameOf:SV->Option Nat
 | .v (.pointer (some ad))=>some ad.block
 | .v (.slice (some ad) _ _)=>some ad.block
 | _=>none
def addNm (o:Oper) (i:Nat) (s:SV) (A:List (Nat × Nat)):List (Nat × Nat):=bif allB o.op then (match nameOf s with
 | some nm=>(i,nm) :: A
 | none=>A) else A
def wPre (W:WE) (ops:Array Oper):List Nat->List Nat->List (Nat × Nat)->TS->BX->KH->(List Nat->List (Nat × Nat)->TS->BX->KH->Prop)->Prop
 | [],X,A,T,B,H,K=>K X A T B H
 | i :: l,X,A,T,B,H,K=>match ops[i]? with
   | none=>False
   | some o=>bif (silB o.op||allB o.op)&&!(memN i X) then wWant ops o T
      (fun T=>wOp W (anyNm H) o T B H fun T s B H=>wPre W ops l (i :: X) (addNm o i s A) (putS T o.dst s) B H K)
      (fun T=>wPre W ops l (i :: X) A (putS T o.dst (.v undefV)) B H K) else False
def hidden (hide:List Nat):List (Nat × Nat)->List Nat
 | []=>[]
 | (i,nm) :: l=>bif memN i hide then nm :: hidden hide l else hidden hide l
def hideK (H:KH):List Nat->KH
 | []=>H
 | n :: l=>(hideK H l).del n
def backK (H:KH) (H':KH):List Nat->KH
 | []=>H'
 | n :: l=>fun k=>if k=n then H n else backK H H' l k
def loudOk (ops:Array Oper) (T:TS) (o:Oper) (hide:List Nat):Bool:=(hide.all fun i=>Nat.blt i ops.size)&&match o.op with
 | .store _ a _=>match opS T a with
   | some (.r b _)=>hide.all fun i=>match (ops[i]?).bind (·.dst) with
     | some d=>!(Nat.beq d b)
     | none=>true
   | _=>true
 | .call _=>true
 | .makeMap _ _=>true
 | .mapUpdate _ _ _ _=>true
 | _=>false
def avoid (H:KH):List Nat->Prop->Prop
 | [],p=>p
 | n :: l,p=>H n=none->avoid H l p
def wStages (W:WE) (ops:Array Oper):List Stage->List Nat->List (Nat × Nat)->TS->BX->KH->(TS->BX->KH->Prop)->Prop
 | [],_,_,T,B,H,K=>K T B H
 | s :: l,X,A,T,B,H,K=>wRe W ops T B H s.re/\wPre W ops s.pre X A T B H fun X A T B H=>match s.loud with
   | none=>match l with
     | []=>K T B H
     | _=>False
   | some i=>match ops[i]? with
     | none=>False
     | some o=>wWant ops o T
        (fun T=>bif loudOk ops T o s.hide then wOp W (anyNm H) o T B (hideK H (hidden s.hide A)) fun T' sv B' H'=>avoid H' (hidden s.hide A) (wStages W ops l X A (putS T' o.dst sv) B' (backK H H' (hidden s.hide A)) K) else False)
        (fun T=>wStages W ops l X A (putS T o.dst (.v undefV)) B H K)
def allSh:Sh->(Value->Prop)->Prop
 | .int k,K=>∀ x:Int,K (.int k x)
 | .bool,K=>∀ b:Bool,K (.bool b)
 | .str,K=>∀ s:ByteArray,K (.string s)
 | .slice,K=>∀ (a:OA) (n c:Nat),K (.slice a n c)
 | .ptr,K=>∀ b o:Nat,K (.pointer (some ⟨b,o,none⟩))
 | .fn,K=>∀ g:Nat,K (.func (.func g) #[] #[])
 | .fix v,K=>K v
 | .fnk,K=>∀ (g:Nat) (k:List Value),K (.func (.func g) #[] k.toArray)
 | .yld,K=>∀ l:Nat,K (.func (.yield l) #[] #[])
 | .map,K=>∀ n:Nat,K (.map (some n))
def allShs:List Value->(List Value->Prop)->Prop
 | [],K=>K []
 | z :: l,K=>allSh (shOf z) fun v=>allShs l fun vs=>K (v :: vs)
def allLV:List LV->(List Value->Prop)->Prop
 | [],K=>K []
 | .tmp _ s :: l,K=>allSh s fun v=>allLV l fun vs=>K (v :: vs)
 | .agg _ zs :: l,K=>allShs zs fun cs=>allLV l fun vs=>K (.agg cs.toArray :: vs)
 | _ :: _,_=>True
def pickT (T:TS) (N:Nat):List LV->TS
 | []=>.nil
 | .tmp t _ :: l=>(match tget T t with
   | some (.v x)=>bif Nat.blt t N then tset (pickT T N l) t (some (.v x)) else pickT T N l
   | some (.q b)=>bif Nat.blt t N then tset (pickT T N l) t (some (.q b)) else pickT T N l
   | _=>pickT T N l)
 | _ :: l=>pickT T N l
def putPsS (T:TS):List Nat->List Value->TS
 | t :: ts,v :: vs=>putPsS (tset T t (some (toSV v))) ts vs
 | _,_=>T
def addN (i:Nat) (l:List Nat):List Nat:=bif memN i l then l else i :: l
def exitsOf:Code->List Nat->List Nat
 | .seq a b,l=>exitsOf a (exitsOf b l)
 | .cond _ a b,l=>exitsOf a (exitsOf b l)
 | .block _ c,l=>exitsOf c l
 | .loop c,l=>exitsOf c l
 | .exit i,l=>addN i l
 | .rangeFunc _ _ _ c,l=>exitsOf c l
 | _,l=>l
def orX:List Nat->(Nat->Prop)->Prop
 | [],_=>False
 | [i],K=>K i
 | i :: l,K=>K i\/orX l K
def lvAt (W:WE) (k:Nat):List LV:=match tget W.lv k with
 | some l=>l
 | none=>[]
def keyOf:List Nat->Nat
 | t :: _=>t
 | []=>0
def forks:Code->Bool
 | .seq a b=>forks a||forks b
 | .cond _ _ _=>true
 | .block _ c=>forks c
 | .loop _=>true
 | .rangeFunc _ _ _ _=>true
 | _=>false
def joinP (p:Prop):Prop:=p
def wCode (W:WE):Code->TS->BX->KH->(TS->BX->KH->Prop)->(Nat->TS->BX->KH->Prop)->(TS->BX->KH->Prop)->Prop
 | .skip,T,B,H,Kn,_,_=>Kn T B H
 | .seq a b,T,B,H,Kn,Kx,Kr=>bif forks a then wCode W a T B H (fun T B H=>joinP (wCode W b T B H Kn Kx Kr)) Kx Kr else wCode W a T B H (fun T B H=>wCode W b T B H Kn Kx Kr) Kx Kr
 | .cond c a b,T,B,H,Kn,Kx,Kr=>match c with
   | .tmp t=>askB (tget T t) (fun s=>wCode W a (tset T t (some s)) B H Kn Kx Kr) (fun s=>wCode W b (tset T t (some s)) B H Kn Kx Kr)
   | _=>False
 | .block id (.loop c),T,B,H,Kn,Kx,Kr=>match tget W.lv id with
   | none=>False
   | some lv=>∃ I:Nat->IT lv,(∃ n,useL lv (I n) T B H)/\∀ n,bindL lv (I n) .nil .nil fun J T B=>∀ H,J H->
      wCode W c T B H (fun T B H=>∃ m,m<n/\useL lv (I m) T B H) (fun i T B H=>bif Nat.beq i id then Kn T B H else Kx i T B H) Kr
 | .block id c,T,B,H,Kn,Kx,Kr=>wCode W c T B H Kn (fun i T B H=>bif Nat.beq i id then Kn T B H else Kx i T B H) Kr
 | .exit id,T,B,H,_,Kx,_=>Kx id T B H
 | .ret,T,B,H,_,_,Kr=>Kr T B H
 | .region id ops draw,T,B,H,Kn,_,_=>bif draw then
    match tget W.E.pp W.f with
    | none=>False
    | some pf=>match tget pf id with
      | none=>False
      | some st=>wStages W ops st [] [] T B H Kn
    else wOps W ops ops.toList T B H Kn
 | .rangeFunc g ps asg body,T,B,H,Kn,Kx,Kr=>match opW T g,tget W.E.ff W.f with
   | some (.func (.func it) first cap),some fn=>bif Nat.beq (lvAt W (1000000+keyOf ps.toList)).length ps.toList.length&&ps.toList.all (fun t=>Nat.blt t fn.ntmps) then
      FnIn W.E it/\∀ (l:Nat) (L:Lp),H l=none->
       (allLV (lvAt W (1000000+keyOf ps.toList)) fun args=>∀ (H1:KH) (Q:PQ),H1 l=some (lpE L 0 none)->
         wCode W asg (putPsS (pickT T fn.ntmps (lvAt W (2000000+keyOf ps.toList))) ps.toList args) .nil (H1.del l) (fun T B H=>wCode W body T B H
          (fun _ _ H=>H l=none->Q (.bool true) (H.new l (lpE L 0 none)))
          (fun i _ _ H=>H l=none->Q (.bool false) (H.new l (lpE L 2 (some (.exit i)))))
          (fun _ _ H=>H l=none->Q (.bool false) (H.new l (lpE L 2 (some .ret)))))
          (fun _ _ _ _=>False) (fun _ _ _=>False)->DoesR W.E l args H1 Q)->
       Does W.E it (first.toList++[.func (.yield l) #[] #[]]++cap.toList) (H.new l (lpE L 0 none)) fun _ H' =>
        (H' l=some (lpE L 0 none)/\Kn T B (H'.del l))\/(H' l=some (lpE L 2 (some .ret))/\Kr T B (H'.del l))\/
          orX (exitsOf body []) fun i=>H' l=some (lpE L 2 (some (.exit i)))/\Kx i T B (H'.del l)
     else False
   | _,_=>False
 | _,_,_,_,_,_,_=>False
def argsS (T:TS):Nat->List Value->TS
 | _,[]=>T
 | i,v :: l=>argsS (tset T i (some (toSV v))) (i+1) l
def wRess (W:WE) (T:TS) (B:BX) (H:KH):List ResultVar->List Value->(List Value->Prop)->Prop
 | [],acc,K=>K acc.reverse
 | .tmp t :: l,acc,K=>match opW T (.tmp t) with
   | some v=>wRess W T B H l (v :: acc) K
   | none=>False
 | .cell t ty :: l,acc,K=>match tget T t,tget W.E.tt ty with
   | some (.r b off),some ti=>match tget B b with
     | some cs=>bif Nat.ble (off+ti.size) cs.length then
        (bif ti.agg then wRess W T B H l (.agg ((cs.drop off).take ti.size).toArray :: acc) K else match cs[off]? with
          | some v=>wRess W T B H l (v :: acc) K
          | none=>False)
       else False
     | none=>False
   | some (.v (.pointer (some ad))),some ti=>bif ti.agg then (bif Nat.beq ti.zero.length ti.size then exShs ti.zero fun vs=>ld H ad vs/\wRess W T B H l (.agg vs.toArray :: acc) K else False) else (match ti.zero with
     | [z]=>exSh (shOf z) fun v=>ld H ad [v]/\wRess W T B H l (v :: acc) K
     | _=>False)
   | _,_=>False
def wFun (W:WE) (fn:Func) (args:List Value) (H:KH) (Q:PQ):Prop:=match fn.body with
 | none=>False
 | some c=>wCode W c (argsS .nil 0 args) .nil H
    (fun T B H=>wRess W T B H fn.results.toList [] fun vs=>match oneOf vs with
      | some v=>Q v H
      | none=>False)
    (fun _ _ _ _=>False)
    (fun T B H=>wRess W T B H fn.results.toList [] fun vs=>match oneOf vs with
      | some v=>Q v H
      | none=>False)
end Go.Ew
