import Derived.Test.YtibkijpnkmccpaaEvBld
import Derived.RangeFuncLeaves
set_option linter.unusedVariables false
set_option linter.unusedSimpArgs false
namespace Go.Ev
open Go.Deep Go.RowKit
structure Ctx where
 E:Env
 ops:Array Oper
 A:List (List Nat)
 base:Nat
 S:Nat
 T0:Tm
 Tf:Tm
 θ0:Th
 h0:Hp
 w0:World
 ds:List Deferred
 ro:Option Nat
structure Look (C:Ctx) (T:Tm) (i:Nat) (o:Oper):Prop where
 new:∀ t∈o.looksAt C.ops,∀ j∈ancOf C.A i,writesAt C.ops j t=true->tget T t=tget C.Tf t
 old:∀ t∈o.looksAt C.ops,(∀ j∈ancOf C.A i,writesAt C.ops j t=false)->tget T t=tget C.T0 t
structure Inv [LG] (C:Ctx) (D:List Nat) (prev:Option Nat) (h:Hp) (listed:Array Bool) (a:Act) (w:World) (θ:Th):Prop where
 size:listed.size=C.ops.size
 down:Down C.ops listed
 sub:∀ i,Lst listed i->i∈D
 last:∀ c,prev=some c->Lst listed c
 defers:a.defers=C.ds
 tsize:a.tmps.size=C.S
 old:∀ t v,tget C.T0 t=some v->(∀ j,Lst listed j->writesAt C.ops j t=false)->∃ u,a.tmps[t]? = some u/\W θ v u
 new:∀ t v j,Lst listed j->writesAt C.ops j t=true->tget C.Tf t=some v->∃ u,a.tmps[t]? = some u/\W θ v u
 heap:HR θ h w
 names:∀ j,j<C.ops.size->¬ Lst listed j->θ (C.base+j)=none
 nxt:C.base+C.ops.size<=h.nxt
 ext:Ext C.base C.θ0 C.h0 C.w0 θ h w
structure CtxOk (C:Ctx):Prop where
 tt:EnvT C.E
 anc:∀ i,i<C.ops.size->ancOk C.ops C.A i=true
 pair:∀ i j,i<C.ops.size->j<C.ops.size->pairOk C.ops C.A i j=true
 dst:∀ (i:Nat) (o:Oper) (d:Nat),C.ops[i]? = some o->o.dst=some d->d<C.S
 h0:C.h0.nxt=C.base
theorem HR.subheap [LG] {θ:Th} {h1 h:Hp} {w:World} (hr:HR θ h1 w) (hs:∀ n e,tget h.m n=some e->tget h1.m n=some e) (hn:h.nxt=h1.nxt):HR θ h w :=
 ⟨fun n e x h2 h3=>hr.ent n e x (hs n e h2) h3,fun n m e e' x y h2 h3 hne h4 h5=>hr.sep n m e e' x y (hs _ _ h2) (hs _ _ h3) hne h4 h5,fun n h2=>hr.fresh n (by omega)⟩
theorem lst_set {listed:Array Bool} {i j:Nat} (hi:i<listed.size):Lst (listed.setIfInBounds i true) j↔j=i\/Lst listed j:=by
 unfold Lst
 simp only [Array.getD_eq_getD_getElem?,Array.getElem?_setIfInBounds]
 by_cases h:i=j
 .subst h; simp [hi]
 .simp only [if_neg h]
  exact ⟨.inr,fun q=>q.resolve_left (fun e=>h e.symm)⟩
section
variable {C : Ctx} (hC : CtxOk C)
theorem look_val [LG] {D:List Nat} {prev:Option Nat} {h:Hp} {listed:Array Bool} {a:Act} {w:World} {θ:Th} (hC:CtxOk C) (inv:Inv C D prev h listed a w θ) {i:Nat} {o:Oper} {T:Tm} (ho:C.ops[i]? = some o) (hni:¬ Lst listed i) (hanc:∀ j∈ancOf C.A i,Lst listed j)
 (hl:Look C T i o) {t:Nat} {v:Value} (ht:t∈o.looksAt C.ops) (hv:tget T t=some v):∃ u,a.tmps[t]? = some u/\W θ v u:=by
 by_cases hex:∃ j∈ancOf C.A i,writesAt C.ops j t=true
 .obtain ⟨j,hj,hw⟩:=hex
  rw [hl.new t ht j hj hw] at hv
  exact inv.new t v j (hanc j hj) hw hv
 .have hall:∀ j∈ancOf C.A i,writesAt C.ops j t=false:=fun j hj=>by
   cases hq:writesAt C.ops j t with
   | false=>rfl
   | true=>exact absurd ⟨j,hj,hq⟩ hex
  rw [hl.old t ht hall] at hv
  refine inv.old t v hv fun j hL=>?_
  cases hq:writesAt C.ops j t with
  | false=>rfl
  | true =>
    exfalso
    have hne:i≠j:=fun e=>by subst e; exact hni hL
    rcases pair_look hC.pair ho hne ht hq with h1 | h1
    .exact hex ⟨j,h1,hq⟩
    .obtain ⟨oj,hoj,_⟩:=writesAt_iff.1 hq
     exact hni (lst_of_anc hC.anc inv.down (lt_of_get hoj) hL h1)
theorem look_TO [LG] {D:List Nat} {prev:Option Nat} {h:Hp} {listed:Array Bool} {a:Act} {w:World} {θ:Th} (hC:CtxOk C) (inv:Inv C D prev h listed a w θ) {i:Nat} {o:Oper} {T:Tm} (ho:C.ops[i]? = some o) (hni:¬ Lst listed i) (hanc:∀ j∈ancOf C.A i,Lst listed j)
 (hl:Look C T i o):TO θ T a o:=by
 intro x hx v hv
 have hnil:TR θ .nil a:=⟨fun t v q=>by cases q⟩
 cases x with
 | tmp t =>
   obtain ⟨u,h1,h2⟩:=look_val hC inv ho hni hanc hl (t:=t) (v:=v) (List.mem_append_left _ (List.mem_filterMap.2 ⟨.tmp t,hx,rfl⟩)) hv
   simpa [Act.eval,Array.getD_eq_getD_getElem?,h1] using h2
 | const c=>exact opv_W hnil (x:=.const c) hv
 | global g=>exact opv_W hnil (x:=.global g) hv
 | func f=>exact opv_W hnil (x:=.func f) hv
theorem look_guard [LG] {D:List Nat} {prev:Option Nat} {h:Hp} {listed:Array Bool} {a:Act} {w:World} {θ:Th} (hC:CtxOk C) (inv:Inv C D prev h listed a w θ) {i:Nat} {o:Oper} {T:Tm} (ho:C.ops[i]? = some o) (hni:¬ Lst listed i) (hanc:∀ j∈ancOf C.A i,Lst listed j)
 (hl:Look C T i o):∀ j want d v,o.guard=some (j,want)->(C.ops[j]?).bind (·.dst)=some d->tget T d=some v->∃ u,a.tmps[d]? = some u/\W θ v u:=by
 intro j want d v hg hd hv
 refine look_val hC inv ho hni hanc hl (List.mem_append_right _ ?_) hv
 rw [hg]
 simp [hd]
theorem inv_step [LG] {D D':List Nat} {prev prev':Option Nat} {h h':Hp} {listed:Array Bool} {a:Act} {w w':World} {θ θ':Th} {i:Nat} {o:Oper} {u v:Value} (hC:CtxOk C) (inv:Inv C D prev h listed a w θ) (hrdy:i∈Region.ready .any C.ops listed) (ho:C.ops[i]? = some o)
 (keep:∀ n x,θ n=some x->θ' n=some x) (hD:∀ j,j∈D->j∈D') (hiD:i∈D') (hprev:∀ c,prev'=some c->c=i\/prev=some c) (hTf:∀ d,o.dst=some d->tget C.Tf d=some v) (hw:W θ' v u) (hr:HR θ' h' w') (he:Ext C.base C.θ0 C.h0 C.w0 θ' h' w')
 (hnames:∀ j,j<C.ops.size->j≠i->θ (C.base+j)=none->θ' (C.base+j)=none) (hn:C.base+C.ops.size<=h'.nxt):Inv C D' prev' h' (listed.setIfInBounds i true) (a.put o.dst u) w' θ':=by
 obtain ⟨hi,hni,hdir⟩:=mem_ready' inv.size hrdy
 have hil:i<listed.size:=by rw [inv.size]; exact hi
 have hput:∀ t,o.dst≠some t->(a.put o.dst u).tmps[t]? = a.tmps[t]?:=by
  intro t ht
  cases hd:o.dst with
  | none=>rfl
  | some d =>
    have hne:d≠t:=fun e=>ht (by rw [hd,e])
    simp [Act.put,Array.getElem?_setIfInBounds,hne]
 refine ⟨by simp [inv.size],?_,?_,?_,?_,by rw [size_put]; exact inv.tsize,?_,?_,hr,?_,hn,he⟩
 .intro k ok hk hL e he' hb
  rw [lst_set hil] at hL ⊢
  rcases hL with rfl | hL
  .exact .inr (hdir ok hk e he' hb)
  .exact .inr (inv.down k ok hk hL e he' hb)
 .intro j hL
  rw [lst_set hil] at hL
  rcases hL with rfl | hL
  .exact hiD
  .exact hD j (inv.sub j hL)
 .intro c hc
  rw [lst_set hil]
  exact (hprev c hc).imp id (inv.last c)
 .rw [defers_put]; exact inv.defers
 .intro t x hx hno
  have h1:=hno i ((lst_set hil).2 (.inl rfl))
  rw [hput t (writes_false ho h1)]
  obtain ⟨y,q1,q2⟩:=inv.old t x hx fun j hL=>hno j ((lst_set hil).2 (.inr hL))
  exact ⟨y,q1,W_mono keep q2⟩
 .intro t x j hL hwr hx
  by_cases hd:o.dst=some t
  .have:=hTf t hd
   rw [this] at hx
   cases hx
   refine ⟨u,?_,hw⟩
   have hlt:t<a.tmps.size:=by rw [inv.tsize]; exact hC.dst i o t ho hd
   simp [Act.put,hd,hlt]
  .rw [hput t hd]
   have hji:j≠i:=fun e=>by
    subst e
    obtain ⟨o',ho',hd'⟩:=writesAt_iff.1 hwr
    rw [ho] at ho'
    cases ho'
    exact hd hd'
   rw [lst_set hil] at hL
   obtain ⟨y,q1,q2⟩:=inv.new t x j (hL.resolve_left hji) hwr hx
   exact ⟨y,q1,W_mono keep q2⟩
 .intro j hj hL
  rw [lst_set hil] at hL
  have hne:j≠i:=fun e=>hL (.inl e)
  exact hnames j hj hne (inv.names j hj (fun q=>hL (.inr q)))
def SFact (C:Ctx) (h1:Hp) (i:Nat):Prop:=∃ o T h b,C.ops[i]? = some o/\Look C T i o/\wantA C.ops o T=some b/\(b=false->∀ d,o.dst=some d->tget C.Tf d=some undefV)/\
 (b=true->∃ v h',xop C.E noCall (C.base+i) o T h=some (v,h')/\(∀ d,o.dst=some d->tget C.Tf d=some v)/\h.nxt=h1.nxt/\h'.nxt=h1.nxt/\(∀ n e,tget h.m n=some e->tget h1.m n=some e)/\
   (∀ n e,tget h1.m n=some e->tget h'.m n=some e\/(tget h.m n=none/\n≠C.base+i)))
theorem silent_step [LG] {D:List Nat} {prev:Option Nat} {h:Hp} {listed:Array Bool} {a:Act} {w:World} {θ:Th} {i:Nat} {K:Act->World->Prop} {Q:Exit->Act->World->Prop} (hC:CtxOk C) (inv:Inv C D prev h listed a w θ) (hrdy:i∈Region.ready .any C.ops listed) (hiD:i∈D) (hf:SFact C h i)
 (hK:∀ θ' a' w',Inv C D prev h (listed.setIfInBounds i true) a' w' θ'->K a' w'):wpOpIn (FW C.ro) 0 C.E.P C.ops Q i K a w:=by
 obtain ⟨hi,hni,hdir⟩:=mem_ready' inv.size hrdy
 obtain ⟨o,T,hh,b,ho,hl,hwant,hno,hyes⟩:=hf
 have hanc:∀ j∈ancOf C.A i,Lst listed j:=anc_down hC.anc inv.down (i+1) i (by omega) hi hdir
 have hwanted:=want_sound (look_guard hC inv ho hni hanc hl) hwant
 unfold wpOpIn
 rw [ho]
 simp only
 cases b with
 | false =>
   rw [if_neg (by rw [hwanted]; simp)]
   exact ⟨fun _ _=>fn_FW,hK θ _ w (inv_step hC inv hrdy ho (fun _ _ q=>q) (fun _ q=>q) hiD (fun c q=>.inr q) (hno rfl) undef_W inv.heap inv.ext (fun _ _ _ q=>q) inv.nxt)⟩
 | true =>
   rw [if_pos hwanted]
   obtain ⟨v,hh',hx,hTf,n1,n2,hs,hm⟩:=hyes rfl
   refine xop_sound hC.tt (inv.heap.subheap hs n1) (look_TO hC inv ho hni hanc hl) (noCall_at _ _ _) (inv.names i hi hni) hx C.ro _ _ ?_
   intro θ' w' u e r wv
   have hmg:Merge θ θ' h hh hh' h:=⟨fun n en x q _=>hs n en q,n2.symm,fun n en x q1 q2=>by
    rcases hm n en q1 with q3 | ⟨q3,q4⟩
    .exact .inl q3
    .refine .inr ⟨q3,q1,?_⟩
     have hlt:n<hh.nxt:=by
      rcases Nat.lt_or_ge n hh.nxt with g | g
      .exact g
      .have:=r.fresh n (by omega)
       rw [this] at q2; cases q2
     rw [<- e.only n hlt q4]; exact q2⟩
   refine hK θ' _ w' (inv_step hC inv hrdy ho e.keep (fun _ q=>q) hiD (fun c q=>.inr q) hTf wv (merge_HR inv.heap hmg e r) (merge_Ext inv.ext hmg e (by rw [hC.h0]; omega) (by rw [hC.h0,n1]; have:=inv.nxt; omega) (by rw [hC.h0]; have:=inv.nxt; omega)) ?_ inv.nxt)
   intro j hj hne hq
   rw [e.only _ (by rw [n1]; have:=inv.nxt; omega) (by omega)]
   exact hq
theorem hide_get {base:Nat}:∀ {l:List Nat} {m:BT (Option Ent)} {n:Nat},((∃ i∈l,n=base+i)->tget (hideAll base m l) n=none)/\((∀ i∈l,n≠base+i)->tget (hideAll base m l) n=tget m n)
 | [],m,n=>⟨fun ⟨i,hi,_⟩=>(by cases hi),fun _=>rfl⟩
 | k :: l,m,n=>by
   have ih:=@hide_get base l (tset m (base+k) none) n
   refine ⟨fun hex=>?_,fun hno=>?_⟩
   .by_cases hl:∃ i∈l,n=base+i
    .exact ih.1 hl
    .simp only [hideAll]
     rw [ih.2 (fun i hi e=>hl ⟨i,hi,e⟩)]
     obtain ⟨i,hi,e⟩:=hex
     rcases List.mem_cons.1 hi with rfl | hi
     .rw [e,tget_tset_same]
     .exact absurd ⟨i,hi,e⟩ hl
   .simp only [hideAll]
    rw [ih.2 (fun i hi=>hno i (by simp [hi])),tget_tset_ne _ _ _ _ (Ne.symm (hno k (by simp)))]
theorem back_get {base:Nat} {m0:BT (Option Ent)}:∀ {l:List Nat} {m:BT (Option Ent)} {n:Nat},((∃ i∈l,n=base+i)->tget (backAll base m0 m l) n=tget m0 n)/\((∀ i∈l,n≠base+i)->tget (backAll base m0 m l) n=tget m n)
 | [],m,n=>⟨fun ⟨i,hi,_⟩=>(by cases hi),fun _=>rfl⟩
 | k :: l,m,n=>by
   have ih:=@back_get base m0 l (tset m (base+k) (tget m0 (base+k))) n
   refine ⟨fun hex=>?_,fun hno=>?_⟩
   .by_cases hl:∃ i∈l,n=base+i
    .exact ih.1 hl
    .simp only [backAll]
     rw [ih.2 (fun i hi e=>hl ⟨i,hi,e⟩)]
     obtain ⟨i,hi,e⟩:=hex
     rcases List.mem_cons.1 hi with rfl | hi
     .rw [e,tget_tset_same]
     .exact absurd ⟨i,hi,e⟩ hl
   .simp only [backAll]
    rw [ih.2 (fun i hi=>hno i (by simp [hi])),tget_tset_ne _ _ _ _ (Ne.symm (hno k (by simp)))]
theorem loud_step [LG] {D:List Nat} {prev:Option Nat} {h h2:Hp} {listed:Array Bool} {a:Act} {w:World} {θ:Th} {c:Nat} {o:Oper} {T:Tm} {v:Value} {hide:List Nat} {call:Nat->List Value->Hp->Option (Value × Hp)} {K:Act->World->Prop} {Q:Exit->Act->World->Prop} (hC:CtxOk C) (hcall:∀ h,CallAt C.E.P call h.nxt h)
 (inv:Inv C D prev h listed a w θ) (hrdy:c∈Region.ready .any C.ops listed) (ho:C.ops[c]? = some o) (hl:Look C T c o) (hhide:∀ i∈hide,i<C.ops.size) (hwant:wantA C.ops o T=some true) (hx:xop C.E call h.nxt o T ⟨hideAll C.base h.m hide,h.nxt⟩=some (v,h2)) (hTf:∀ d,o.dst=some d->tget C.Tf d=some v)
 (hK:∀ θ' a' w',h.nxt<=h2.nxt->Inv C (c :: D) (some c) ⟨backAll C.base h.m h2.m hide,h2.nxt⟩ (listed.setIfInBounds c true) a' w' θ'->K a' w'):wpOpIn (FW C.ro) 0 C.E.P C.ops Q c K a w:=by
 obtain ⟨hi,hni,hdir⟩:=mem_ready' inv.size hrdy
 have hanc:∀ j∈ancOf C.A c,Lst listed j:=anc_down hC.anc inv.down (c+1) c (by omega) hi hdir
 have hwanted:=want_sound (look_guard hC inv ho hni hanc hl) hwant
 unfold wpOpIn
 rw [ho]
 simp only
 rw [if_pos hwanted]
 have hsub:∀ n e,tget (hideAll C.base h.m hide) n=some e->tget h.m n=some e:=by
  intro n e q
  by_cases hl':∃ i∈hide,n=C.base+i
  .rw [hide_get.1 hl'] at q; cases q
  .rw [hide_get.2 (fun i hi e=>hl' ⟨i,hi,e⟩)] at q; exact q
 have hcc:CallAt C.E.P call h.nxt ⟨hideAll C.base h.m hide,h.nxt⟩:=hcall ⟨hideAll C.base h.m hide,h.nxt⟩
 refine xop_sound (nm:=h.nxt) hC.tt (inv.heap.subheap (h:=⟨hideAll C.base h.m hide,h.nxt⟩) hsub rfl) (look_TO hC inv ho hni hanc hl) hcc (inv.heap.fresh _ (Nat.le_refl _)) hx C.ro _ _ ?_
 intro θ' w' u e r wv
 have hnn:h.nxt<=h2.nxt:=e.nxt
 have hmg:Merge θ θ' h ⟨hideAll C.base h.m hide,h.nxt⟩ h2 ⟨backAll C.base h.m h2.m hide,h2.nxt⟩:=by
  refine ⟨fun n en x q _=>hsub n en q,rfl,fun n en x q1 q2=>?_⟩
  simp only at q1
  by_cases hl':∃ i∈hide,n=C.base+i
  .rw [back_get.1 hl'] at q1
   refine .inr ⟨hide_get.1 hl',q1,?_⟩
   obtain ⟨i,hi',en'⟩:=hl'
   rcases Nat.lt_or_ge n h.nxt with g | g
   .rw [<- e.only n g (by omega)]; exact q2
   .exfalso
    have h1:=hhide i hi'
    have h2:=inv.nxt
    omega
  .rw [back_get.2 (fun i hi e=>hl' ⟨i,hi,e⟩)] at q1
   exact .inl q1
 refine hK θ' _ w' hnn (inv_step hC inv hrdy ho e.keep (fun j q=>by simp [q]) (by simp) (fun c' q=>.inl (Option.some.inj q).symm) hTf wv (merge_HR inv.heap hmg e r) (merge_Ext inv.ext hmg e (by rw [hC.h0]; have:=inv.nxt; omega) (by rw [hC.h0]; show C.base<=h.nxt; have:=inv.nxt; omega) (by rw [hC.h0]; show C.base<=h2.nxt; have:=inv.nxt; omega)) ?_ (by show _<=h2.nxt; have:=inv.nxt; omega))
 intro j hj hne hq
 rw [e.only _ (by show _<h.nxt; have:=inv.nxt; omega) (by have:=inv.nxt; omega)]
 exact hq
end
end Go.Ev
namespace Go.Ev
open Go.Deep Go.RowKit
def cntF (listed:Array Bool):Nat->Nat
 | 0=>0
 | k+1=>cntF listed k+(bif listed.getD k false then 0 else 1)
theorem cnt_set {listed:Array Bool} {i:Nat} (hi:i<listed.size) (hn:¬ Lst listed i):∀ k,(i<k->cntF (listed.setIfInBounds i true) k+1=cntF listed k)/\(k<=i->cntF (listed.setIfInBounds i true) k=cntF listed k)
 | 0=>⟨fun h=>by omega,fun _=>rfl⟩
 | k+1=>by
   obtain ⟨h1,h2⟩:=cnt_set hi hn k
   have hne:∀ j,j≠i->(listed.setIfInBounds i true).getD j false=listed.getD j false:=by
    intro j hj
    simp [Array.getD_eq_getD_getElem?,Array.getElem?_setIfInBounds,Ne.symm hj]
   refine ⟨fun h=>?_,fun h=>?_⟩
   .simp only [cntF]
    by_cases e:k=i
    .subst e
     have e1:(listed.setIfInBounds k true).getD k false=true:=(lst_set (j:=k) hi).2 (.inl rfl)
     have e2:listed.getD k false=false:=by
      cases hq:listed.getD k false with
      | false=>rfl
      | true=>exact absurd hq hn
     rw [e1,e2,h2 (Nat.le_refl _)]
     rfl
    .rw [hne k e]
     have:=h1 (by omega)
     omega
   .simp only [cntF]
    rw [hne k (by omega),h2 (by omega)]
theorem cnt_zero {listed:Array Bool}:∀ {k:Nat},cntF listed k=0->∀ i,i<k->Lst listed i
 | 0,_,i,h=>by omega
 | k+1,hz,i,h=>by
   simp only [cntF] at hz
   by_cases e:i=k
   .subst e
    unfold Lst
    cases hq:listed.getD i false with
    | true=>rfl
    | false=>rw [hq] at hz; simp at hz
   .exact cnt_zero (k:=k) (by omega) i (by omega)
def AFact (C:Ctx) (h:Hp) (i:Nat):Prop:=∃ o T b,C.ops[i]? = some o/\allB o.op=true/\Look C T i o/\wantA C.ops o T=some b/\(b=false->∀ d,o.dst=some d->tget C.Tf d=some undefV)/\
 (b=true->∃ v ent,(∀ H,xop C.E noCall (C.base+i) o T H=some (v,halloc H (C.base+i) ent))/\(∀ d,o.dst=some d->tget C.Tf d=some v)/\tget h.m (C.base+i)=some ent)
theorem AFact.sfact {C:Ctx} {h:Hp} {i:Nat} (hn:C.base+i<h.nxt) (hf:AFact C h i):SFact C h i:=by
 obtain ⟨o,T,b,ho,ha,hl,hw,hno,hyes⟩:=hf
 refine ⟨o,T,⟨tset h.m (C.base+i) none,h.nxt⟩,b,ho,hl,hw,hno,fun hb=>?_⟩
 obtain ⟨v,ent,h1,h2,h3⟩:=hyes hb
 refine ⟨v,_,h1 _,h2,rfl,halloc_nxt hn,fun n e q=>?_,fun n e q=>?_⟩
 .simp only [tget_tset] at q
  split at q
  .cases q
  .exact q
 .refine .inl ?_
  simp only [halloc,tget_tset]
  by_cases e1:C.base+i=n
  .rw [if_pos e1]
   rw [<- e1,h3] at q
   exact q
  .rw [if_neg e1,if_neg e1]
   exact q
theorem AFact.mono {C:Ctx} {h h1:Hp} {i:Nat} (hs:∀ e,tget h.m (C.base+i)=some e->tget h1.m (C.base+i)=some e) (hf:AFact C h i):AFact C h1 i:=by
 obtain ⟨o,T,b,ho,ha,hl,hw,hno,hyes⟩:=hf
 refine ⟨o,T,b,ho,ha,hl,hw,hno,fun hb=>?_⟩
 obtain ⟨v,ent,k1,k2,k3⟩:=hyes hb
 exact ⟨v,ent,k1,k2,hs _ k3⟩
def CT (C:Ctx) (D:List Nat) (T:Tm):Prop:=∀ t,(∀ j∈D,writesAt C.ops j t=false)->tget T t=tget C.T0 t
theorem CT.cons {C:Ctx} {D:List Nat} {T:Tm} (h:CT C D T) {i:Nat} {o:Oper} (ho:C.ops[i]? = some o) (v:Value):CT C (i :: D) (tputD T o.dst v):=fun t ht=>by
 rw [tputD_ne (writes_false ho (ht i (by simp)))]
 exact h t fun j hj=>ht j (by simp [hj])
theorem pre_facts {C:Ctx} (hC:CtxOk C) {prev:Option Nat}:∀ {l D:List Nat} {T T1:Tm} {h h1:Hp},preOk C.ops C.A prev D l=true->C.base+C.ops.size<=h.nxt->xpre C.E C.ops C.base l T h=some (T1,h1)->CT C D T->(∀ t j,(j∈l\/j∈D)->writesAt C.ops j t=true->tget C.Tf t=tget T1 t)->
 CT C (l.reverse++D) T1/\(∀ i∈l,∀ j∈ancOf C.A i,j∈l\/j∈D)/\∀ i∈l,SFact C h1 i/\(opAt? C.ops allB i=true->AFact C h1 i)
 | [],D,T,T1,h,h1,hp,hn,hx,ct,hs=>by
   cases hx
   exact ⟨by simpa using ct,fun i hi=>(by cases hi),fun i hi=>(by cases hi)⟩
 | i :: l,D,T,T1,h,h1,hp,hn,hx,ct,hs=>by
   have hp0:=hp
   obtain ⟨hk,hiD,_,hlk,hp'⟩:=preOk_cons hp
   have hnew:=preOk_new hp'
   have hx0:=hx
   simp only [xpre] at hx
   split at hx
   .rename_i o ho hf
    have hlt:=lt_of_get ho
    obtain ⟨lk1,lk2⟩:=lookOk_spec ho hlk
    have hk':silB o.op=true\/allB o.op=true:=by
     rcases hk with hk | hk
     .obtain ⟨o',ho',q⟩:=opAt_some hk; rw [ho] at ho'; cases ho'; exact .inl q
     .obtain ⟨o',ho',q⟩:=opAt_some hk; rw [ho] at ho'; cases ho'; exact .inr q
    have hs':∀ t j,(j∈l\/j∈i :: D)->writesAt C.ops j t=true->tget C.Tf t=tget T1 t:=fun t j hj=>hs t j (by
     rcases hj with q | q
     .exact .inl (by simp [q])
     .rcases List.mem_cons.1 q with rfl | q
      .exact .inl (by simp)
      .exact .inr q)
    have hlook:Look C T i o:=by
     refine ⟨fun t ht j hj hw=>?_,fun t ht hno=>ct t fun j hj=>?_⟩
     .have hjD:=lk1 j hj
      rw [hs t j (.inr hjD) hw]
      refine (pre_T hx0 t fun k hkm=>?_).symm
      cases hq:writesAt C.ops k t with
      | false=>rfl
      | true =>
        have e:=pair_dst hC.pair hq hw
        subst e
        rcases List.mem_cons.1 hkm with rfl | hkm
        .exact absurd hjD hiD
        .exact absurd (by simp [hjD]) (hnew k hkm)
     .cases hq:writesAt C.ops j t with
      | false=>rfl
      | true=>rw [hno j (lk2 t ht j hj hq)] at hq; cases hq
    have hdst:∀ (T':Tm) (h':Hp) (v:Value),xpre C.E C.ops C.base l T' h'=some (T1,h1)->T'=tputD T o.dst v->∀ d,o.dst=some d->tget C.Tf d=some v:=by
     intro T' h' v hq he d hd
     have hw:writesAt C.ops i d=true:=writesAt_iff.2 ⟨o,ho,hd⟩
     rw [hs d i (.inl (by simp)) hw,pre_T hq d fun k hkm=>?_,he,hd,tputD_same]
     cases hq2:writesAt C.ops k d with
     | false=>rfl
     | true =>
       have e:=pair_dst hC.pair hq2 hw
       subst e
       exact absurd (by simp) (hnew k hkm)
    have fin:∀ {P:Prop},(CT C (l.reverse++i :: D) T1/\(∀ k∈l,∀ j∈ancOf C.A k,j∈l\/j∈i :: D)/\∀ k∈l,SFact C h1 k/\(opAt? C.ops allB k=true->AFact C h1 k))->SFact C h1 i/\(opAt? C.ops allB i=true->AFact C h1 i)->
     CT C ((i :: l).reverse++D) T1/\(∀ k∈i :: l,∀ j∈ancOf C.A k,j∈i :: l\/j∈D)/\∀ k∈i :: l,SFact C h1 k/\(opAt? C.ops allB k=true->AFact C h1 k):=by
     intro _ hih hi
     refine ⟨by simpa [List.append_assoc] using hih.1,fun k hkm j hj=>?_,fun k hkm=>?_⟩
     .rcases List.mem_cons.1 hkm with rfl | hkm
      .exact .inr (lk1 j hj)
      .rcases hih.2.1 k hkm j hj with q | q
       .exact .inl (by simp [q])
       .rcases List.mem_cons.1 q with rfl | q
        .exact .inl (by simp)
        .exact .inr q
     .rcases List.mem_cons.1 hkm with rfl | hkm
      .exact hi
      .exact hih.2.2 k hkm
    split at hx
    .rename_i hw
     split at hx
     .rename_i v h2 hop
      obtain ⟨g1,g2,g3⟩:=one_heap (E:=C.E) hk' hf (by omega) hop
      have hR:=pre_R (E:=C.E) hp' (by omega) hx
      have ih:=pre_facts hC hp' (by omega) hx (ct.cons ho v) hs'
      have hTf:=hdst _ _ v hx rfl
      refine fin (P:=True) ih ⟨⟨o,T,h,true,ho,hlook,hw,fun e=>(by cases e),fun _=>⟨v,h2,hop,hTf,by rw [hR.nxt,g3],by rw [hR.nxt],fun n e q=>hR.sub n e (g1 n e q),fun n e q=>?_⟩⟩,fun ha=>?_⟩
      .cases hc:tget h2.m n with
       | some e' =>
         have:=hR.sub n e' hc
         rw [q] at this
         exact .inl this.symm
       | none =>
         obtain ⟨k,hkm,e1⟩:=hR.new n e q hc
         refine .inr ⟨?_,fun e2=>?_⟩
         .cases hc2:tget h.m n with
          | none=>rfl
          | some e'=>rw [g1 n e' hc2] at hc; cases hc
         .have:k=i:=by omega
          subst this
          exact absurd (by simp) (hnew k hkm)
      .obtain ⟨o',ho',ha'⟩:=opAt_some ha
       rw [ho] at ho'
       cases ho'
       obtain ⟨ent,e1,e2⟩:=all_any ha' hop
       refine ⟨o,T,true,ho,ha',hlook,hw,fun e=>(by cases e),fun _=>⟨v,ent,e2,hTf,hR.sub _ _ ?_⟩⟩
       rw [e1]
       simp only [halloc,tget_tset_same]
     .cases hx
    .rename_i hw
     have hR:=pre_R (E:=C.E) hp' hn hx
     have ih:=pre_facts hC hp' hn hx (ct.cons ho undefV) hs'
     have hTf:=hdst _ _ undefV hx rfl
     refine fin (P:=True) ih ⟨⟨o,T,h,false,ho,hlook,hw,fun _=>hTf,fun e=>by cases e⟩,fun ha=>?_⟩
     obtain ⟨o',ho',ha'⟩:=opAt_some ha
     rw [ho] at ho'
     cases ho'
     exact ⟨o,T,false,ho,ha',hlook,hw,fun _=>hTf,fun e=>by cases e⟩
    .cases hx
   .cases hx
theorem reOk_spec {C:Ctx} {D re:List Nat} (h:reOk C.ops C.A D re=true) {i:Nat} (hi:i∈re):∃ o,C.ops[i]? = some o/\silB o.op=true/\i∈D/\∀ t∈o.looksAt C.ops,∀ j∈D,writesAt C.ops j t=true->j∈ancOf C.A i:=by
 unfold reOk at h
 rw [List.all_eq_true] at h
 have h1:=h i hi
 simp only [Bool.and_eq_true] at h1
 obtain ⟨⟨h2,h3⟩,h4⟩:=h1
 obtain ⟨o,ho,hs⟩:=opAt_some h2
 rw [ho] at h4
 simp only [List.all_eq_true,Bool.or_eq_true,Bool.not_eq_true'] at h4
 refine ⟨o,ho,hs,memN_iff.1 h3,fun t ht j hj hw=>?_⟩
 rcases h4 t ht j hj with q | q
 .rw [hw] at q; cases q
 .exact memN_iff.1 q
theorem re_facts {C:Ctx} (hC:CtxOk C) {D pre:List Nat} {T T1:Tm} {h h1:Hp} (hn:C.base+C.ops.size<=h.nxt) (hR:PreR C.E C.ops C.base pre T h T1 h1) (hpre:∀ k∈pre,k∉D) (ct:CT C D T) (hanc:∀ i∈D,∀ j∈ancOf C.A i,j∈D) (hs:∀ t j,j∈D->writesAt C.ops j t=true->tget C.Tf t=tget T t) :
 ∀ {re:List Nat},reOk C.ops C.A D re=true->xre C.E C.ops C.base T h re=true->∀ i∈re,SFact C h1 i
 | [],_,_,i,hi=>by cases hi
 | k :: re,hok,hx,i,hi=>by
   have hok':reOk C.ops C.A D re=true:=by
    unfold reOk at hok ⊢
    simp only [List.all_cons,Bool.and_eq_true] at hok
    exact hok.2
   have hx0:=hx
   simp only [xre] at hx
   obtain ⟨o,ho,hsil,hkD,hlk⟩:=reOk_spec hok (i:=k) (by simp)
   rw [ho] at hx
   simp only at hx
   have hlook:Look C T k o:=by
    refine ⟨fun t ht j hj hw=>(hs t j (hanc k hkD j hj) hw).symm,fun t ht hno=>ct t fun j hj=>?_⟩
    cases hq:writesAt C.ops j t with
    | false=>rfl
    | true=>rw [hno j (hlk t ht j hj hq)] at hq; cases hq
   have hTd:∀ d,o.dst=some d->tget C.Tf d=tget T d:=fun d hd=>hs d k hkD (writesAt_iff.2 ⟨o,ho,hd⟩)
   have heap:∀ n e,tget h1.m n=some e->tget h.m n=some e\/(tget h.m n=none/\n≠C.base+k):=by
    intro n e q
    cases hc:tget h.m n with
    | some e' =>
      have:=hR.sub n e' hc
      rw [q] at this
      exact .inl this.symm
    | none =>
      obtain ⟨j,hj,e1⟩:=hR.new n e q hc
      refine .inr ⟨rfl,fun e2=>?_⟩
      have:j=k:=by omega
      subst this
      exact hpre j hj hkD
   split at hx
   .rename_i hw
    split at hx
    .rename_i v h2 d hop hd
     split at hx
     .rename_i u hu
      simp only [Bool.and_eq_true] at hx
      rcases List.mem_cons.1 hi with rfl | hi
      .have e1:=eqV_eq hx.1
       have e2:=sil_same hsil (Nat.lt_of_lt_of_le (Nat.add_lt_add_left (lt_of_get ho) _) hn) hop
       subst e2
       refine ⟨o,T,h2,true,ho,hlook,hw,fun e=>(by cases e),fun _=>⟨v,h2,hop,fun d' hd'=>?_,hR.nxt.symm,hR.nxt.symm,hR.sub,heap⟩⟩
       rw [hTd d' hd']
       rw [hd] at hd'
       cases hd'
       rw [hu,e1]
      .exact re_facts hC hn hR hpre ct hanc hs hok' hx.2 i hi
     .cases hx
    .rename_i x hop hd
     rcases List.mem_cons.1 hi with rfl | hi
     .obtain ⟨v,h2⟩:=x
      have e2:=sil_same hsil (Nat.lt_of_lt_of_le (Nat.add_lt_add_left (lt_of_get ho) _) hn) hop
      subst e2
      exact ⟨o,T,h2,true,ho,hlook,hw,fun e=>(by cases e),fun _=>⟨v,h2,hop,fun d' hd'=>(by rw [hd] at hd'; cases hd'),hR.nxt.symm,hR.nxt.symm,hR.sub,heap⟩⟩
     .exact re_facts hC hn hR hpre ct hanc hs hok' hx i hi
    .cases hx
   .rename_i hw
    split at hx
    .rename_i d hd
     split at hx
     .rename_i a hu
      simp only [Bool.and_eq_true] at hx
      rcases List.mem_cons.1 hi with rfl | hi
      .refine ⟨o,T,h,false,ho,hlook,hw,fun _ d' hd'=>?_,fun e=>by cases e⟩
       rw [hTd d' hd']
       rw [hd] at hd'
       cases hd'
       rw [hu]
       have:a = #[]:=Array.eq_empty_of_size_eq_zero (Nat.eq_of_beq_eq_true hx.1)
       rw [this]; rfl
      .exact re_facts hC hn hR hpre ct hanc hs hok' hx.2 i hi
     .cases hx
    .rename_i hd
     rcases List.mem_cons.1 hi with rfl | hi
     .exact ⟨o,T,h,false,ho,hlook,hw,fun _ d' hd'=>(by rw [hd] at hd'; cases hd'),fun e=>by cases e⟩
     .exact re_facts hC hn hR hpre ct hanc hs hok' hx i hi
   .cases hx
theorem bitB_eq (m j:Nat):bitB m j=m.testBit j:=by
 unfold bitB Nat.testBit
 have h:Nat.land (Nat.shiftRight m j) 1=1 &&& (m >>> j):=by
  show (m >>> j) &&& 1=_
  rw [Nat.and_comm]
 rw [h,Nat.and_comm,Nat.and_one_is_mod]
 have:(m >>> j)%2=0\/(m >>> j)%2=1:=by omega
 rcases this with e | e<;>rw [e]<;>rfl
theorem bit_or (a b j:Nat):bitB (Nat.lor a b) j=(bitB a j||bitB b j):=by
 simp only [bitB_eq]
 exact Nat.testBit_or a b j
theorem bit_and (a b j:Nat):bitB (Nat.land a b) j=(bitB a j&&bitB b j):=by
 simp only [bitB_eq]
 exact Nat.testBit_and a b j
theorem beq_iff {m n:Nat}:Nat.beq m n=true↔m=n:=⟨Nat.eq_of_beq_eq_true,fun e=>by rw [e]; simp⟩
theorem bit_one (i j:Nat):bitB (oneM i) j=Nat.beq j i:=by
 rw [bitB_eq]
 show (1 <<< i).testBit j=_
 rw [Nat.one_shiftLeft,Nat.testBit_two_pow]
 by_cases h:i=j
 .subst h; simp
 .have:Nat.beq j i=false:=by
   cases hb:Nat.beq j i with
   | false=>rfl
   | true=>exact absurd (Nat.eq_of_beq_eq_true hb).symm h
  rw [this,decide_eq_false h]
theorem bit_zero (j:Nat):bitB 0 j=false:=by rw [bitB_eq]; exact Nat.zero_testBit j
theorem sub_bit {a b:Nat} (h:subM a b=true) {j:Nat} (hj:bitB a j=true):bitB b j=true:=by
 have e:=Nat.eq_of_beq_eq_true h
 rw [<- e,bit_and] at hj
 simp only [Bool.and_eq_true] at hj
 exact hj.2
theorem force_eq (n:Nat) (k:Nat->Bool):forceB n k=k n:=by cases n<;>rfl
theorem bit_list {j:Nat}:∀ {l:List Nat},bitB (listM l) j=true↔j∈l
 | []=>by simp [listM,bit_zero]
 | i :: l=>by
   simp only [listM,bit_or,Bool.or_eq_true,bit_one,bit_list (l:=l),List.mem_cons,beq_iff]
theorem mAt_set (M:BT (Option Nat)) (i m j:Nat):mAt (tset M i (some m)) j=if i=j then m else mAt M j:=by
 unfold mAt
 rw [tget_tset]
 by_cases h:i=j<;>simp [h]
theorem maskOf_congr {M M':BT (Option Nat)}:∀ {l:List Edge},(∀ e∈l,Region.binds .any e=true->mAt M e.on=mAt M' e.on)->maskOf M l=maskOf M' l
 | [],_=>rfl
 | e :: l,h=>by
   simp only [maskOf]
   rw [maskOf_congr (l:=l) (fun e' he'=>h e' (List.mem_cons_of_mem _ he'))]
   cases hb:Region.binds .any e with
   | false=>rfl
   | true=>rw [h e (by simp) hb]
theorem mask_bit {M:BT (Option Nat)} {j:Nat}:∀ {l:List Edge},bitB (maskOf M l) j=true->∃ e∈l,Region.binds .any e=true/\(j=e.on\/bitB (mAt M e.on) j=true)
 | [],h=>by rw [maskOf,bit_zero] at h; cases h
 | e :: l,h=>by
   simp only [maskOf] at h
   cases hb:Region.binds .any e with
   | false =>
     rw [hb] at h
     obtain ⟨e',h1,h2⟩:=mask_bit (l:=l) h
     exact ⟨e',List.mem_cons_of_mem _ h1,h2⟩
   | true =>
     rw [hb] at h
     simp only [cond_true,bit_or,Bool.or_eq_true,bit_one,beq_iff] at h
     rcases h with h | h
     .exact ⟨e,by simp,hb,h⟩
     .obtain ⟨e',h1,h2⟩:=mask_bit (l:=l) h
      exact ⟨e',List.mem_cons_of_mem _ h1,h2⟩
structure Go1 (l:List Oper) (i:Nat) (M X:BT (Option Nat)) (a:Nat) (M' X':BT (Option Nat)) (a':Nat):Prop where
 old:∀ j,j<i->mAt M' j=mAt M j
 edges:∀ j o,l[j]? = some o->∀ e∈o.after.toList,Region.binds .any e=true->e.on<i+j
 mask:∀ j o,l[j]? = some o->mAt M' (i+j)=maskOf M' o.after.toList
 keep:∀ d v,tget X d=some v->tget X' d=some v
 wr:∀ j o d,l[j]? = some o->o.dst=some d->tget X' d=some (i+j)
 al:∀ j,bitB a' j=true↔(bitB a j=true\/∃ o,i<=j/\l[j-i]? = some o/\allB o.op=true)
theorem ancGo_spec {k:BT (Option Nat)->BT (Option Nat)->Nat->Bool}:∀ (l:List Oper) (i:Nat) (M X:BT (Option Nat)) (a:Nat),ancGo k l i M X a=true->∃ M' X' a',k M' X' a'=true/\Go1 l i M X a M' X' a'
 | [],i,M,X,a,h=>⟨M,X,a,h,⟨fun _ _=>rfl,fun j o q=>by simp at q,fun j o q=>by simp at q,fun _ _ q=>q,fun j o d q=>by simp at q,fun j=>by simp⟩⟩
 | o :: l,i,M,X,a,h=>by
   simp only [ancGo,Bool.and_eq_true,force_eq] at h
   obtain ⟨he,h⟩:=h
   have hedge:∀ e∈o.after.toList,Region.binds .any e=true->e.on<i:=fun e h1 h2=>by
    have:=List.all_eq_true.1 he e h1
    rw [h2] at this
    exact Nat.le_of_ble_eq_true this
   have key:∀ X1,(∀ d v,tget X d=some v->tget X1 d=some v)->(∀ d,o.dst=some d->tget X1 d=some i)->
    ancGo k l (i+1) (tset M i (some (maskOf M o.after.toList))) X1 (bif allB o.op then Nat.lor a (oneM i) else a)=true->∃ M' X' a',k M' X' a'=true/\Go1 (o :: l) i M X a M' X' a':=by
    intro X1 hX hd hx
    obtain ⟨M',X',a',h1,g⟩:=ancGo_spec l (i+1) _ _ _ hx
    have old:∀ j,j<i->mAt M' j=mAt M j:=fun j hj=>by rw [g.old j (by omega),mAt_set,if_neg (by omega)]
    refine ⟨M',X',a',h1,⟨old,?_,?_,fun d v q=>g.keep d v (hX d v q),?_,?_⟩⟩
    .intro j o' ho' e h1 h2
     cases j with
     | zero=>simp at ho'; subst ho'; exact hedge e h1 h2
     | succ j=>have:=g.edges j o' (by simpa using ho') e h1 h2; omega
    .intro j o' ho'
     cases j with
     | zero =>
       simp at ho'; subst ho'
       rw [Nat.add_zero,g.old i (by omega),mAt_set,if_pos rfl]
       exact maskOf_congr fun e h1 h2=>(old _ (hedge e h1 h2)).symm
     | succ j=>have:=g.mask j o' (by simpa using ho'); rw [<- this]; congr 1; omega
    .intro j o' d ho' hd'
     cases j with
     | zero=>simp at ho'; subst ho'; exact g.keep _ _ (hd d hd')
     | succ j=>have:=g.wr j o' d (by simpa using ho') hd'; rw [this]; congr 1; omega
    .intro j
     rw [g.al j]
     constructor
     .rintro (q | ⟨o',q1,q2,q3⟩)
      .cases ha:allB o.op with
       | false=>rw [ha] at q; exact .inl q
       | true =>
         rw [ha] at q
         simp only [cond_true,bit_or,Bool.or_eq_true,bit_one,beq_iff] at q
         rcases q with q | q
         .exact .inl q
         .subst q; exact .inr ⟨o,Nat.le_refl _,by simp,ha⟩
      .refine .inr ⟨o',by omega,?_,q3⟩
       have:j-i=(j-(i+1))+1:=by omega
       rw [this,List.getElem?_cons_succ]; exact q2
     .rintro (q | ⟨o',q1,q2,q3⟩)
      .refine .inl ?_
       cases ha:allB o.op with
       | false=>exact q
       | true=>simp only [cond_true,bit_or,q,Bool.true_or]
      .rcases Nat.lt_or_ge i j with hlt | hge
       .refine .inr ⟨o',by omega,?_,q3⟩
        have:j-i=(j-(i+1))+1:=by omega
        rw [this,List.getElem?_cons_succ] at q2; exact q2
       .have e:j=i:=by omega
        subst e
        simp at q2
        subst q2
        refine .inl ?_
        rw [q3]
        simp only [cond_true,bit_or,bit_one,Bool.or_eq_true,beq_iff]
        exact .inr trivial
   cases hdst:o.dst with
   | none =>
     rw [hdst] at h
     exact key X (fun _ _ q=>q) (fun d q=>by rw [hdst] at q; cases q) h
   | some d =>
     rw [hdst] at h
     simp only at h
     cases hxd:tget X d with
     | some v=>rw [hxd] at h; cases h
     | none =>
       rw [hxd] at h
       refine key (tset X d (some i)) (fun d' v q=>?_) (fun d' q=>?_) h
       .rw [tget_tset]
        by_cases e:d=d'
        .subst e; rw [hxd] at q; cases q
        .rw [if_neg e]; exact q
       .rw [hdst] at q; cases q; rw [tget_tset,if_pos rfl]
theorem byAll_get {X:BT (Option Nat)} {p:Nat->Bool}:∀ {l:List Tmp},byAll X p l=true->∀ t∈l,∀ j,tget X t=some j->p j=true
 | [],_,t,ht,_,_=>by cases ht
 | t :: l,h,u,hu,j,hj=>by
   simp only [byAll,Bool.and_eq_true] at h
   rcases List.mem_cons.1 hu with e | e
   .subst e
    have:=h.1
    rw [hj] at this
    exact this
   .exact byAll_get h.2 u e j hj
theorem pairF_get {ops:Array Oper} {M X:BT (Option Nat)}:∀ {l:List Oper} {i:Nat},pairF ops M X l i=true->∀ j o,l[j]? = some o->byAll X (fun k=>Nat.beq (i+j) k||bitB (mAt M (i+j)) k||bitB (mAt M k) (i+j)) (o.looksAt ops)=true
 | [],_,_,j,o,h=>by simp at h
 | o :: l,i,h,j,o',ho=>by
   simp only [pairF,Bool.and_eq_true] at h
   cases j with
   | zero=>simp at ho; subst ho; exact h.1
   | succ j =>
     have:=pairF_get h.2 j o' (by simpa using ho)
     have e:i+1+j=i+(j+1):=by omega
     rw [e] at this
     exact this
section
variable {ops : Array Oper} {M X : BT (Option Nat)} {a : Nat}
def listA (n:Nat) (M:BT (Option Nat)):List (List Nat):=(List.range n).map fun i=>(List.range n).filter fun j=>bitB (mAt M i) j
theorem mem_anc {n i j:Nat}:j∈ancOf (listA n M) i↔i<n/\j<n/\bitB (mAt M i) j=true:=by
 unfold ancOf listA
 by_cases h:i<n
 .simp [h]
 .simp [h]
structure PF (ops:Array Oper) (M X:BT (Option Nat)) (a:Nat):Prop where
 edges:∀ i o,ops[i]? = some o->∀ e∈o.after.toList,Region.binds .any e=true->e.on<i
 mask:∀ i o,ops[i]? = some o->mAt M i=maskOf M o.after.toList
 wr:∀ i o d,ops[i]? = some o->o.dst=some d->tget X d=some i
 al:∀ i,bitB a i=true↔opAt? ops allB i=true
theorem get_of_lt {i:Nat} (h:i<ops.size):∃ o,ops[i]? = some o:=⟨ops[i],by simp [h]⟩
theorem lt_of_some {i:Nat} {o:Oper} (h:ops[i]? = some o):i<ops.size:=by
 rcases Nat.lt_or_ge i ops.size with k | k
 .exact k
 .rw [Array.getElem?_eq_none k] at h; cases h
theorem PF.lt (pf:PF ops M X a):∀ (k i j:Nat),i<k->i<ops.size->bitB (mAt M i) j=true->j<i
 | 0,_,_,h,_,_=>by omega
 | k+1,i,j,hk,hi,hb=>by
   obtain ⟨o,ho⟩:=get_of_lt hi
   rw [pf.mask i o ho] at hb
   obtain ⟨e,h1,h2,h3⟩:=mask_bit hb
   have:=pf.edges i o ho e h1 h2
   rcases h3 with rfl | h3
   .exact this
   .have:=pf.lt k e.on j (by omega) (by omega) h3; omega
theorem PF.anc (pf:PF ops M X a) {i j:Nat} (hi:i<ops.size):memN j (ancOf (listA ops.size M) i)=bitB (mAt M i) j:=by
 cases hb:bitB (mAt M i) j with
 | true=>exact memN_iff.2 (mem_anc.2 ⟨hi,by have:=pf.lt (i+1) i j (by omega) hi hb; omega,hb⟩)
 | false =>
   cases hm:memN j (ancOf (listA ops.size M) i) with
   | false=>rfl
   | true=>have:=(mem_anc.1 (memN_iff.1 hm)).2.2; rw [hb] at this; cases this
theorem PF.ancOk (pf:PF ops M X a) (i:Nat) (hi:i<ops.size):ancOk ops (listA ops.size M) i=true:=by
 obtain ⟨o,ho⟩:=get_of_lt hi
 unfold Ev.ancOk
 rw [ho]
 simp only [Bool.and_eq_true,List.all_eq_true]
 refine ⟨fun e he=>?_,fun j hj=>?_⟩
 .cases hb:Region.binds .any e with
  | false=>rfl
  | true=>exact Nat.ble_eq_true_of_le (pf.edges i o ho e he hb)
 .have hb:=(mem_anc.1 hj).2.2
  rw [pf.mask i o ho] at hb
  obtain ⟨e,h1,h2,h3⟩:=mask_bit hb
  rw [List.any_eq_true]
  refine ⟨e,h1,?_⟩
  have hlt:=pf.edges i o ho e h1 h2
  rw [h2,pf.anc (by omega)]
  simp only [Bool.true_and,Bool.or_eq_true,beq_iff]
  exact h3
theorem PF.writes (pf:PF ops M X a) {j t:Nat} (h:writesAt ops j t=true):tget X t=some j:=by
 obtain ⟨o,h1,h2⟩:=writesAt_iff.1 h
 exact pf.wr j o t h1 h2
theorem PF.pairOk (pf:PF ops M X a) (hp:pairF ops M X ops.toList 0=true) (i j:Nat) (hi:i<ops.size) (hj:j<ops.size):pairOk ops (listA ops.size M) i j=true:=by
 obtain ⟨o,ho⟩:=get_of_lt hi
 unfold Ev.pairOk
 rw [ho]
 simp only [Bool.or_eq_true,Bool.and_eq_true,beq_iff]
 by_cases hij:i=j
 .exact .inl hij
 refine .inr ⟨?_,?_⟩
 .rw [List.all_eq_true]
  intro t ht
  cases hw:writesAt ops j t with
  | false=>rfl
  | true =>
    have:=byAll_get (pairF_get hp i o (by simpa using ho)) t ht j (pf.writes hw)
    rw [pf.anc hi,pf.anc hj]
    simp only [Nat.zero_add,Bool.or_eq_true,beq_iff] at this
    simp only [Bool.not_true,Bool.false_or,Bool.or_eq_true]
    rcases this with (h | h) | h
    .exact absurd h hij
    .exact .inl h
    .exact .inr h
 .cases hd:o.dst with
  | none=>rfl
  | some d =>
    simp only
    cases hw:writesAt ops j d with
    | false=>rfl
    | true =>
      have h1:=pf.writes hw
      rw [pf.wr i o d ho hd] at h1
      exact absurd (Option.some.inj h1) hij
def DM (n:Nat) (D:List Nat) (m:Nat):Prop:=∀ i,(i∈D↔bitB m i=true)/\(i∈D->i<n)
theorem DM.cons {n:Nat} {D:List Nat} {m i:Nat} (h:DM n D m) (hi:i<n):DM n (i :: D) (Nat.lor m (oneM i)):=by
 intro j
 rw [bit_or,bit_one]
 simp only [List.mem_cons,Bool.or_eq_true,beq_iff]
 refine ⟨⟨fun q=>q.elim .inr (fun q=>.inl ((h j).1.1 q)),fun q=>q.elim (fun q=>.inr ((h j).1.2 q)) .inl⟩,fun q=>q.elim (fun e=>e ▸ hi) (h j).2⟩
theorem PF.behind (pf:PF ops M X a) {prev:Option Nat} {i:Nat} (hi:i<ops.size) (hp:∀ c,prev=some c->c<ops.size) (h:behindF M prev i=true):behind (listA ops.size M) prev i=true:=by
 unfold behindF at h
 unfold Ev.behind
 cases prev with
 | none=>rfl
 | some c =>
   simp only [Bool.and_eq_true] at h ⊢
   rw [pf.anc hi]
   refine ⟨h.1,?_⟩
   unfold subN
   rw [List.all_eq_true]
   intro j hj
   rw [pf.anc hi]
   exact sub_bit h.2 (mem_anc.1 hj).2.2
theorem PF.look (pf:PF ops M X a) {D:List Nat} {m i:Nat} {o:Oper} (hD:DM ops.size D m) (ho:ops[i]? = some o) (h:lookF ops M X m i=true):((o.looksAt ops).all fun t=>D.all fun j=>!writesAt ops j t||memN j (ancOf (listA ops.size M) i))=true:=by
 unfold lookF at h
 rw [ho] at h
 rw [List.all_eq_true]
 intro t ht
 rw [List.all_eq_true]
 intro j hj
 cases hw:writesAt ops j t with
 | false=>rfl
 | true =>
   have:=byAll_get h t ht j (pf.writes hw)
   rw [(hD j).1.1 hj] at this
   rw [pf.anc (lt_of_some ho)]
   simpa using this
theorem PF.lookOk (pf:PF ops M X a) {D:List Nat} {m i:Nat} (hD:DM ops.size D m) (h1:subM (mAt M i) m=true) (h2:(!bitB (mAt M i) i)=true) (h:lookF ops M X m i=true):lookOk ops (listA ops.size M) D i=true:=by
 unfold Ev.lookOk
 cases ho:ops[i]? with
 | none=>unfold lookF at h; rw [ho] at h; cases h
 | some o =>
   simp only [Bool.and_eq_true]
   refine ⟨⟨?_,?_⟩,pf.look hD ho h⟩
   .unfold subN
    rw [List.all_eq_true]
    intro j hj
    exact memN_iff.2 ((hD j).1.2 (sub_bit h1 (mem_anc.1 hj).2.2))
   .rw [pf.anc (lt_of_some ho)]; exact h2
theorem opAt_lt {p:Op->Bool} {i:Nat} (h:opAt? ops p i=true):i<ops.size:=by
 unfold opAt? at h
 cases ho:ops[i]? with
 | none=>rw [ho] at h; cases h
 | some o=>exact lt_of_some ho
theorem PF.pre (pf:PF ops M X a) {prev:Option Nat} (hp:∀ c,prev=some c->c<ops.size) {k:Nat->Bool}:∀ {l:List Nat} {D:List Nat} {m:Nat},DM ops.size D m->preF ops M X prev k l m=true->
 preOk ops (listA ops.size M) prev D l=true/\∃ m',DM ops.size (l.reverse++D) m'/\k m'=true
 | [],D,m,hD,h=>⟨rfl,m,hD,h⟩
 | i :: l,D,m,hD,h=>by
   simp only [preF,Bool.and_eq_true,force_eq] at h
   obtain ⟨⟨⟨⟨⟨⟨h1,h2⟩,h3⟩,h4⟩,h5⟩,h6⟩,h7⟩:=h
   have hi:i<ops.size:=by
    simp only [Bool.or_eq_true] at h1
    exact h1.elim opAt_lt opAt_lt
   obtain ⟨q1,m',q2,q3⟩:=pf.pre hp (hD.cons hi) h7
   refine ⟨?_,m',by simpa using q2,q3⟩
   simp only [preOk,Bool.and_eq_true]
   refine ⟨⟨⟨⟨h1,?_⟩,pf.behind hi hp h3⟩,pf.lookOk hD h4 h5 h6⟩,q1⟩
   cases hm:memN i D with
   | false=>rfl
   | true=>rw [(hD i).1.1 (memN_iff.1 hm)] at h2; cases h2
theorem PF.re (pf:PF ops M X a) {D:List Nat} {m:Nat} (hD:DM ops.size D m):∀ {l:List Nat},reF ops M X m l=true->reOk ops (listA ops.size M) D l=true
 | [],_=>rfl
 | i :: l,h=>by
   simp only [reF,Bool.and_eq_true] at h
   have ih:=pf.re hD h.2
   unfold reOk at ih ⊢
   simp only [List.all_cons,Bool.and_eq_true]
   refine ⟨⟨⟨h.1.1.1,memN_iff.2 ((hD i).1.2 h.1.1.2)⟩,?_⟩,ih⟩
   cases ho:ops[i]? with
   | none =>
     have:=opAt_lt h.1.1.1
     obtain ⟨o,ho'⟩:=get_of_lt this
     rw [ho] at ho'; cases ho'
   | some o=>exact pf.look hD ho h.1.2
theorem wait_get {D c:Nat}:∀ {n:Nat},waitF M D c n=true->∀ i,i<n->bitB D i=true\/i=c\/bitB (mAt M i) c=true
 | 0,_,i,hi=>by omega
 | n+1,h,i,hi=>by
   simp only [waitF,Bool.and_eq_true,Bool.or_eq_true,beq_iff] at h
   by_cases e:i=n
   .subst e; rcases h.1 with (q | q) | q
    .exact .inl q
    .exact .inr (.inl q)
    .exact .inr (.inr q)
   .exact wait_get h.2 i (by omega)
theorem full_bit {n i:Nat} (h:i<n):bitB (Nat.sub (Nat.pow 2 n) 1) i=true:=by
 rw [bitB_eq]
 show (2 ^ n-1).testBit i=true
 rw [Nat.testBit_two_pow_sub_one]
 simpa using h
theorem PF.st (pf:PF ops M X a):∀ {l:List Stage} {prev:Option Nat} {D:List Nat} {m:Nat},(∀ c,prev=some c->c<ops.size)->DM ops.size D m->stF ops M X a l prev m=true->stOk ops (listA ops.size M) D prev l=true
 | [],prev,D,m,_,_,h=>by cases h
 | s :: l,prev,D,m,hprev,hD,h=>by
   simp only [stF,Bool.and_eq_true] at h
   obtain ⟨⟨h1,h2⟩,h3⟩:=h
   obtain ⟨p1,m',hD1,p2⟩:=pf.pre hprev hD h3
   have hcover:coverOk ops (listA ops.size M) prev D s.re=true:=by
    unfold coverOk
    rw [List.all_eq_true]
    intro i hi
    have hb:=sub_bit h1 ((hD i).1.1 hi)
    simp only [bit_or,Bool.or_eq_true] at hb
    simp only [Bool.or_eq_true]
    rcases hb with hb | hb | hb
    .exact .inl (.inl (memN_iff.2 (bit_list.1 hb)))
    .exact .inl (.inr ((pf.al i).1 hb))
    .refine .inr ?_
     cases prev with
     | none=>rw [prevM,bit_zero] at hb; cases hb
     | some c =>
       simp only [prevM,bit_or,Bool.or_eq_true,bit_one,beq_iff] at hb
       simp only [Bool.or_eq_true,beq_iff]
       rw [pf.anc (hprev c rfl)]
       exact hb
   simp only [stOk,Bool.and_eq_true]
   refine ⟨⟨⟨hcover,pf.re hD h2⟩,p1⟩,?_⟩
   cases hl:s.loud with
   | none =>
     rw [hl] at p2
     simp only [Bool.and_eq_true] at p2 ⊢
     refine ⟨?_,p2.2⟩
     rw [List.all_eq_true]
     intro i hi
     exact memN_iff.2 ((hD1 i).1.2 (sub_bit p2.1 (full_bit (by simpa using hi))))
   | some c =>
     rw [hl] at p2
     simp only [Bool.and_eq_true,force_eq] at p2 ⊢
     obtain ⟨⟨⟨⟨⟨⟨⟨⟨⟨q1,q2⟩,q3⟩,q4⟩,q5⟩,q6⟩,q7⟩,q8⟩,q9⟩,q10⟩:=p2
     have hc:c<ops.size:=by
      cases ho:ops[c]? with
      | none=>rw [ho] at q1; cases q1
      | some o=>exact lt_of_some ho
     refine ⟨⟨⟨⟨⟨⟨⟨q1,q2⟩,?_⟩,pf.behind hc hprev q4⟩,pf.lookOk hD1 q5 q6 q7⟩,?_⟩,?_⟩,?_⟩
     .cases hm:memN c (s.pre.reverse++D) with
      | false=>rfl
      | true=>rw [(hD1 c).1.1 (memN_iff.1 hm)] at q3; cases q3
     .rw [List.all_eq_true]
      intro i hi
      cases ha:opAt? ops allB i with
      | false=>rfl
      | true =>
        have hb:=sub_bit q8 (j:=i) (by rw [bit_and,(hD1 i).1.1 hi,(pf.al i).2 ha]; rfl)
        simp only [bit_or,Bool.or_eq_true] at hb
        rw [pf.anc hc]
        simp only [Bool.not_true,Bool.false_or,Bool.or_eq_true]
        exact hb.imp (fun q=>memN_iff.2 (bit_list.1 q)) id
     .rw [List.all_eq_true]
      intro i hi
      have hin:i<ops.size:=by simpa using hi
      simp only [Bool.or_eq_true,beq_iff]
      rw [pf.anc hin]
      rcases wait_get q9 i hin with q | q | q
      .exact .inl (.inl (memN_iff.2 ((hD1 i).1.2 q)))
      .exact .inl (.inr q)
      .exact .inr q
     .exact pf.st (fun c' e=>by cases e; exact hc) (hD1.cons hc) q10
theorem planOk_spec {st:List Stage} (h:planOk ops st=true):∃ A,(∀ i,i<ops.size->ancOk ops A i=true)/\(∀ i j,i<ops.size->j<ops.size->pairOk ops A i j=true)/\stOk ops A [] none st=true:=by
 obtain ⟨M,X,a,h1,g⟩:=ancGo_spec _ _ _ _ _ h
 simp only [Bool.and_eq_true] at h1
 have pf:PF ops M X a:=by
  refine ⟨fun i o ho e h1 h2=>?_,fun i o ho=>?_,fun i o d ho hd=>?_,fun i=>?_⟩
  .have:=g.edges i o (by simpa using ho) e h1 h2; omega
  .have:=g.mask i o (by simpa using ho); simpa using this
  .have:=g.wr i o d (by simpa using ho) hd; simpa using this
  .rw [g.al i]
   simp only [bit_zero,Bool.false_eq_true,false_or,Nat.zero_le,Nat.sub_zero,true_and,Array.getElem?_toList]
   unfold opAt?
   constructor
   .rintro ⟨o,q1,q2⟩; rw [q1]; exact q2
   .intro q
    cases ho:ops[i]? with
    | none=>rw [ho] at q; cases q
    | some o=>rw [ho] at q; exact ⟨o,rfl,q⟩
 exact ⟨listA ops.size M,pf.ancOk,pf.pairOk h1.1,pf.st (fun c e=>by cases e) (fun i=>⟨⟨fun q=>(by cases q),fun q=>by rw [bit_zero] at q; cases q⟩,fun q=>(by cases q)⟩) h1.2⟩
end
end Go.Ev
namespace Go.Ev
open Go.Deep Go.RowKit
theorem Inv.pre [LG] {C:Ctx} {D pre:List Nat} {prev:Option Nat} {h h1:Hp} {listed:Array Bool} {a:Act} {w:World} {θ:Th} {T T1:Tm} (inv:Inv C D prev h listed a w θ) (hR:PreR C.E C.ops C.base pre T h T1 h1) (hpre:∀ k∈pre,k∉D) (hlt:∀ k∈pre,k<C.ops.size):Inv C (pre.reverse++D) prev h1 listed a w θ:=by
 have down:∀ n e x,tget h1.m n=some e->θ n=some x->tget h.m n=some e:=by
  intro n e x q1 q2
  cases hc:tget h.m n with
  | some e' =>
    have:=hR.sub n e' hc
    rw [q1] at this
    exact this.symm
  | none =>
    obtain ⟨k,hk,e1⟩:=hR.new n e q1 hc
    have:=inv.names k (hlt k hk) (fun q=>hpre k hk (inv.sub k q))
    rw [<- e1,q2] at this
    cases this
 refine ⟨inv.size,inv.down,fun i q=>by simp [inv.sub i q],inv.last,inv.defers,inv.tsize,inv.old,inv.new,⟨fun n e x q1 q2=>inv.heap.ent n e x (down n e x q1 q2) q2,fun n m e e' x y q1 q2 hne q3 q4=>inv.heap.sep n m e e' x y (down n e x q1 q3) (down m e' y q2 q4) hne q3 q4,fun n q=>inv.heap.fresh n (by rw [<- hR.nxt]; exact q)⟩,inv.names,by rw [hR.nxt]; exact inv.nxt,?_⟩
 have x:=inv.ext
 exact ⟨x.keep,x.only,by rw [hR.nxt]; exact x.nxt,x.size,x.tape,x.os,x.output,x.frame,fun n e y q1 qu q2=>x.ownw n e y (down n e y q1 q2) qu q2,fun n e y q1 q2=>x.own n e y (down n e y q1 q2) q2⟩
theorem behind_spec {A:List (List Nat)} {c i:Nat} (h:behind A (some c) i=true):c∈ancOf A i/\∀ j∈ancOf A c,j∈ancOf A i:=by
 simp only [behind,Bool.and_eq_true] at h
 exact ⟨memN_iff.1 h.1,fun j hj=>subN_mem h.2 hj⟩
theorem preOk_lt {ops:Array Oper} {A:List (List Nat)} {prev:Option Nat}:∀ {l D:List Nat},preOk ops A prev D l=true->∀ i∈l,i<ops.size
 | [],_,_,i,hi=>by cases hi
 | k :: l,D,h,i,hi=>by
   obtain ⟨h1,_,_,_,h5⟩:=preOk_cons h
   rcases List.mem_cons.1 hi with rfl | hi
   .rcases h1 with q | q<;>(obtain ⟨o,ho,_⟩:=opAt_some q; exact lt_of_get ho)
   .exact preOk_lt h5 i hi
theorem stages_main [LG] {C:Ctx} (hC:CtxOk C) {call:Nat->List Value->Hp->Option (Value × Hp)} (hcall:∀ h,CallAt C.E.P call h.nxt h) {hf:Hp} {Q:Exit->Act->World->Prop}
 (hQ:∀ θ a w,TR θ C.Tf a->a.tmps.size=C.S->a.defers=C.ds->HR θ hf w->Ext C.base C.θ0 C.h0 C.w0 θ hf w->Q .normal a w) :
 ∀ (st:List Stage) (D:List Nat) (prev:Option Nat) (T:Tm) (h:Hp),stOk C.ops C.A D prev st=true->xstages C.E call C.ops C.base st T h=some (C.Tf,hf)->CT C D T->(∀ i∈D,∀ j∈ancOf C.A i,j∈D)->
  (∀ i∈D,opAt? C.ops allB i=true->(∀ c,prev=some c->i≠c/\i∉ancOf C.A c)->AFact C h i)->
  ∀ (fuel:Nat) (listed:Array Bool) (a:Act) (w:World) (θ:Th),Inv C D prev h listed a w θ->cntF listed C.ops.size<=fuel->wpAnyIn (FW C.ro) 0 C.E.P .any C.ops Q fuel listed a w
 | [],D,prev,T,h,hst,_,_,_,_,_,_,_,_,_,_,_=>by simp [stOk] at hst
 | s :: l,D,prev,T,h,hst,hx,ct,hancD,haf,fuel,listed,a,w,θ,inv,hcnt=>by
   have hst0:=hst
   have hx0:=hx
   obtain ⟨s1,s2,s3,s4⟩:=stOk_cons hst
   simp only [xstages] at hx
   cases hre:xre C.E C.ops C.base T h s.re<;>simp only [hre,cond_true,cond_false,reduceCtorEq] at hx
   split at hx
   .cases hx
   rename_i T1 h1 hpre
   have hnx:=inv.nxt
   have hR:=pre_R (E:=C.E) s3 hnx hpre
   have hnew:=preOk_new s3
   have hplt:=preOk_lt s3
   have hmem:∀ j,j∈s.pre.reverse++D↔(j∈s.pre\/j∈D):=fun j=>by simp
   -- what has been written stays
   have hstab:∀ t j,(j∈s.pre\/j∈D)->writesAt C.ops j t=true->tget C.Tf t=tget T1 t:=by
    intro t j hj hw
    rcases s4 with ⟨e1,e2,_⟩ | ⟨c,o,e1,ho,_,hc,_,_,_,_,hst'⟩
    .rw [e1] at hx
     subst e2
     simp only at hx
     cases hx
     rfl
    .rw [e1] at hx
     simp only [ho] at hx
     have hcw:o.dst≠some t:=fun e=>by
      have hq:=writesAt_iff.2 ⟨o,ho,e⟩
      have:=pair_dst hC.pair hq hw
      subst this
      exact hc ((hmem _).2 hj)
     have hjD:j∈c :: (s.pre.reverse++D):=List.mem_cons_of_mem _ ((hmem j).2 hj)
     split at hx
     .split at hx
      .rw [stages_T hC.pair hst' hx t j hjD hw,tputD_ne hcw]
      .cases hx
     .rw [stages_T hC.pair hst' hx t j hjD hw,tputD_ne hcw]
     .cases hx
   obtain ⟨ct1,hancP,hfacts⟩:=pre_facts hC s3 hnx hpre ct hstab
   have hrf:=re_facts hC hnx hR hnew ct hancD (fun t j hj hw=>stages_T hC.pair hst0 hx0 t j hj hw) s2 hre
   have haf1:∀ i∈s.pre.reverse++D,opAt? C.ops allB i=true->(∀ c,prev=some c->i≠c/\i∉ancOf C.A c)->AFact C h1 i:=by
    intro i hi ha hp
    rcases (hmem i).1 hi with q | q
    .exact (hfacts i q).2 ha
    .exact (haf i q ha hp).mono (fun e q2=>hR.sub _ _ q2)
   have hanc1:∀ i∈s.pre.reverse++D,∀ j∈ancOf C.A i,j∈s.pre.reverse++D:=by
    intro i hi j hj
    rw [hmem]
    rcases (hmem i).1 hi with q | q
    .exact hancP i q j hj
    .exact .inr (hancD i q j hj)
   -- every one that may be done later than it was reckoned
   have fact:∀ {listed a w θ},Inv C (s.pre.reverse++D) prev h1 listed a w θ->∀ i∈s.pre.reverse++D,¬ Lst listed i->SFact C h1 i:=by
    intro listed a w θ inv1 i hi hni
    rcases (hmem i).1 hi with q | q
    .exact (hfacts i q).1
    .unfold coverOk at s1
     rw [List.all_eq_true] at s1
     have h2:=s1 i q
     simp only [Bool.or_eq_true] at h2
     rcases h2 with (h3 | h3) | h3
     .exact hrf i (memN_iff.1 h3)
     .have hilt:i<C.ops.size:=by obtain ⟨o,ho,_⟩:=opAt_some h3; exact lt_of_get ho
      refine (haf1 i hi h3 fun c hc=>⟨fun e=>?_,fun e=>?_⟩).sfact (by have:=inv1.nxt; omega)
      .subst e; exact hni (inv1.last _ hc)
      .have hLc:=inv1.last c hc
       have hclt:c<C.ops.size:=by
        unfold Lst at hLc
        rcases Nat.lt_or_ge c listed.size with g | g
        .rw [<- inv1.size]; exact g
        .simp [Array.getD_eq_getD_getElem?,Array.getElem?_eq_none g] at hLc
       exact hni (lst_of_anc hC.anc inv1.down hclt hLc e)
     .cases hp:prev with
      | none=>rw [hp] at h3; cases h3
      | some c =>
        rw [hp] at h3
        simp only [Bool.or_eq_true] at h3
        have hLc:=inv1.last c hp
        rcases h3 with h4 | h4
        .have e:i=c:=Nat.eq_of_beq_eq_true h4
         subst e
         exact absurd hLc hni
        .have hclt:c<C.ops.size:=by
          unfold Lst at hLc
          rcases Nat.lt_or_ge c listed.size with g | g
          .rw [<- inv1.size]; exact g
          .simp [Array.getD_eq_getD_getElem?,Array.getElem?_eq_none g] at hLc
         exact absurd (lst_of_anc hC.anc inv1.down hclt hLc (memN_iff.1 h4)) hni
   -- all are done
   have done:∀ {listed a w θ},Inv C (s.pre.reverse++D) prev h1 listed a w θ->(∀ i,i<C.ops.size->Lst listed i)->Q .normal a w:=by
    intro listed a w θ inv1 hall
    rcases s4 with ⟨e1,e2,_⟩ | ⟨c,o,e1,ho,_,hc,_⟩
    .rw [e1] at hx
     subst e2
     simp only [Option.some.injEq,Prod.mk.injEq] at hx
     obtain ⟨hT,hh⟩:=hx
     refine hQ θ a w ⟨fun t v hv=>?_⟩ inv1.tsize inv1.defers (hh ▸ inv1.heap) (hh ▸ inv1.ext)
     by_cases hex:∃ j,writesAt C.ops j t=true
     .obtain ⟨j,hw⟩:=hex
      obtain ⟨oj,hoj,_⟩:=writesAt_iff.1 hw
      exact inv1.new t v j (hall j (lt_of_get hoj)) hw hv
     .have hno:∀ j,writesAt C.ops j t=false:=fun j=>by
       cases hq:writesAt C.ops j t with
       | false=>rfl
       | true=>exact absurd ⟨j,hq⟩ hex
      rw [<- hT,ct1 t fun j _=>hno j] at hv
      exact inv1.old t v hv fun j _=>hno j
    .exact absurd (inv1.sub c (hall c (lt_of_get ho))) hc
   have inner:∀ (fuel:Nat) (listed:Array Bool) (a:Act) (w:World) (θ:Th),Inv C (s.pre.reverse++D) prev h1 listed a w θ->cntF listed C.ops.size<=fuel->wpAnyIn (FW C.ro) 0 C.E.P .any C.ops Q fuel listed a w:=by
    intro fuel
    induction fuel with
    | zero =>
      intro listed a w θ inv1 hc
      have hall:=cnt_zero (listed:=listed) (k:=C.ops.size) (by omega)
      refine ⟨?_,done inv1 hall⟩
      cases hr:Region.ready .any C.ops listed with
      | nil=>rfl
      | cons i r =>
        have hm:i∈Region.ready .any C.ops listed:=by rw [hr]; simp
        obtain ⟨q1,q2,_⟩:=mem_ready' inv1.size hm
        exact absurd (hall i q1) q2
    | succ fuel ih =>
      intro listed a w θ inv1 hc
      refine ⟨fun hr=>done inv1 fun i hi=>all_done hC.anc inv1.size hr (i+1) i (by omega) hi,fun i hi=>?_⟩
      obtain ⟨q1,q2,q3⟩:=mem_ready' inv1.size hi
      have hcs:=(cnt_set (listed:=listed) (i:=i) (by rw [inv1.size]; exact q1) q2 C.ops.size).1 q1
      by_cases hiD:i∈s.pre.reverse++D
      .exact silent_step hC inv1 hi hiD (fact inv1 i hiD q2) fun θ' a' w' inv'=>ih _ a' w' θ' inv' (by omega)
      .rcases s4 with ⟨_,_,hall⟩ | ⟨c,o,e1,ho,hhide,hcD,hbh,hlk,hal,hfu,hst'⟩
       .exact absurd (hall i q1) hiD
       .have hancI:∀ j∈ancOf C.A i,Lst listed j:=anc_down hC.anc inv1.down (i+1) i (by omega) q1 q3
        have hic:i=c:=by
         rcases hfu i q1 with g | g | g
         .exact absurd g hiD
         .exact g
         .exact absurd (inv1.sub c (hancI c g)) hcD
        subst hic
        obtain ⟨lk1,lk2⟩:=lookOk_spec ho hlk
        have hlook:Look C T1 i o:=by
         refine ⟨fun t ht j hj hw=>(hstab t j ((hmem j).1 (lk1 j hj)) hw).symm,fun t ht hno=>ct1 t fun j hj=>?_⟩
         cases hq:writesAt C.ops j t with
         | false=>rfl
         | true=>rw [hno j (lk2 t ht j hj hq)] at hq; cases hq
        rw [e1] at hx
        simp only [ho] at hx
        have hanc2:∀ k∈i :: (s.pre.reverse++D),∀ j∈ancOf C.A k,j∈i :: (s.pre.reverse++D):=by
         intro k hk j hj
         rcases List.mem_cons.1 hk with rfl | hk
         .exact List.mem_cons_of_mem _ (lk1 j hj)
         .exact List.mem_cons_of_mem _ (hanc1 k hk j hj)
        split at hx
        .rename_i hw
         split at hx
         .rename_i v h2 hop
          refine loud_step hC hcall inv1 hi ho hlook hhide hw hop (fun d hd=>?_) fun θ' a' w' hnn inv'=>?_
          .rw [stages_T hC.pair hst' hx d i (by simp) (writesAt_iff.2 ⟨o,ho,hd⟩),hd,tputD_same]
          .refine stages_main hC hcall hQ l _ (some i) _ _ hst' hx (ct1.cons ho v) hanc2 ?_ fuel _ a' w' θ' inv' (by omega)
           intro k hk ha hp
           obtain ⟨p1,p2⟩:=hp i rfl
           have hkD:k∈s.pre.reverse++D:=(List.mem_cons.1 hk).resolve_left p1
           have hkh:k∈s.hide:=(hal k hkD ha).resolve_right p2
           have hkl:k<C.ops.size:=by obtain ⟨o',ho',_⟩:=opAt_some ha; exact lt_of_get ho'
           refine (haf1 k hkD ha fun c' hc'=>⟨fun e=>?_,fun e=>?_⟩).mono fun e q=>?_
           .subst e
            rw [hc'] at hbh
            exact p2 (behind_spec hbh).1
           .rw [hc'] at hbh
            exact p2 ((behind_spec hbh).2 k e)
           .rw [back_get.1 ⟨k,hkh,rfl⟩]; exact q
         .cases hx
        .rename_i hw
         have hwanted:=want_sound (look_guard hC inv1 ho q2 hancI hlook) hw
         unfold wpOpIn
         rw [ho]
         simp only
         rw [if_neg (by rw [hwanted]; simp)]
         have hTf:∀ d,o.dst=some d->tget C.Tf d=some undefV:=fun d hd=>by
          rw [stages_T hC.pair hst' hx d i (by simp) (writesAt_iff.2 ⟨o,ho,hd⟩),hd,tputD_same]
         have inv':=inv_step (D':=i :: (s.pre.reverse++D)) (prev':=some i) hC inv1 hi ho (fun _ _ q=>q) (fun j q=>List.mem_cons_of_mem _ q) (by simp) (fun c' q=>.inl (Option.some.inj q).symm) hTf undef_W inv1.heap inv1.ext (fun _ _ _ q=>q) inv1.nxt
         refine ⟨fun _ _=>fn_FW,stages_main hC hcall hQ l _ (some i) _ _ hst' hx (ct1.cons ho undefV) hanc2 ?_ fuel _ _ w θ inv' (by omega)⟩
         intro k hk ha hp
         obtain ⟨p1,p2⟩:=hp i rfl
         have hkD:k∈s.pre.reverse++D:=(List.mem_cons.1 hk).resolve_left p1
         refine haf1 k hkD ha fun c' hc'=>⟨fun e=>?_,fun e=>?_⟩
         .subst e
          rw [hc'] at hbh
          exact p2 (behind_spec hbh).1
         .rw [hc'] at hbh
          exact p2 ((behind_spec hbh).2 k e)
        .cases hx
   exact inner fuel listed a w θ (inv.pre hR hnew hplt) hcnt
theorem draw_sound [LG] {E:Env} (hE:EnvT E) (hm:E.P.follows .mixedOrders=true) {call:Nat->List Value->Hp->Option (Value × Hp)} (hcall:∀ h,CallAt E.P call h.nxt h) {ops:Array Oper} {N id:Nat} {st:List Stage} {T T':Tm} {h h':Hp} {θ:Th} {a:Act} {w:World} {Q:Exit->Act->World->Prop} {ro:Option Nat}
 (hx:xstages E call ops h.nxt st T ⟨h.m,h.nxt+ops.size⟩=some (T',h')) (hp:planOk ops st=true) (hd:dstsOk N ops.toList=true) (ht:TR θ T a) (hN:N<=a.tmps.size) (hr:HR θ h w)
 (hQ:∀ θ' a' w',Ext h.nxt θ h w θ' h' w'->HR θ' h' w'->TR θ' T' a'->a'.tmps.size=a.tmps.size->a'.defers=a.defers->Q .normal a' w'):(Code.region id ops true).wpIn (FW ro) 0 E.P Q a w:=by
 refine wpIn_region_any hm ?_
 obtain ⟨A,hp1,hp2,hp3⟩:=planOk_spec hp
 let C:Ctx:=⟨E,ops,A,h.nxt,a.tmps.size,T,T',θ,h,{ w with drawn:=w.drawn+1 },a.defers,ro⟩
 have hC:CtxOk C:=⟨hE,fun i hi=>hp1 i hi,fun i j hi hj=>hp2 i j hi hj,fun i o d ho hdd=>Nat.lt_of_lt_of_le (dstsOk_get hd i o (by simpa using ho) d hdd) hN,rfl⟩
 have hr1:HR θ ⟨h.m,h.nxt+ops.size⟩ { w with drawn:=w.drawn+1 }:=⟨(hr.drawn (w.drawn+1)).ent,(hr.drawn (w.drawn+1)).sep,fun n hn=>hr.fresh n (by have:h.nxt+ops.size<=n:=hn; omega)⟩
 have hl0:∀ i,¬ Lst (Array.replicate ops.size false) i:=fun i hq=>by
  unfold Lst at hq
  rw [Array.getD_eq_getD_getElem?,Array.getElem?_replicate] at hq
  split at hq<;>simp at hq
 have inv:Inv C [] none ⟨h.m,h.nxt+ops.size⟩ (Array.replicate ops.size false) a { w with drawn:=w.drawn+1 } θ:=by
  refine ⟨by simp [C],fun i o _ hL=>absurd hL (hl0 i),fun i hL=>absurd hL (hl0 i),fun c hc=>(by cases hc),rfl,rfl,fun t v hv _=>ht.tmps t v hv,fun t v j hL=>absurd hL (hl0 j),hr1,fun j hj _=>hr.fresh _ (by show h.nxt<=h.nxt+j; omega),Nat.le_refl _,?_⟩
  exact ⟨fun _ _ q=>q,fun _ _ _=>rfl,by show h.nxt<=h.nxt+ops.size; omega,Nat.le_refl _,rfl,rfl,rfl,fun _ _ _=>rfl,fun n e x q1 qu q2=>.inr ⟨n,e,x,q1,qu,q2,rfl⟩,fun n e x q1 q2=>.inr ⟨n,e,x,q1,q2,rfl⟩⟩
 have hcnt:∀ k,k<=ops.size->cntF (Array.replicate ops.size false) k<=k:=by
  intro k
  induction k with
  | zero=>intro _; simp [cntF]
  | succ k ih =>
    intro hk
    have:=ih (by omega)
    simp only [cntF]
    cases (Array.replicate ops.size false).getD k false<;>simp<;>omega
 refine stages_main hC hcall ?_ st [] none T _ hp3 hx (fun t _=>rfl) (fun i hi=>(by cases hi)) (fun i hi=>(by cases hi)) ops.size _ a _ θ inv (hcnt _ (Nat.le_refl _))
 intro θ' a' w' t1 t2 td t3 t4
 refine hQ θ' a' w' ?_ t3 t1 t2 td
 exact ⟨t4.keep,t4.only,t4.nxt,t4.size,t4.tape,t4.os,t4.output,t4.frame,t4.ownw,t4.own⟩
def Splices (P:Program) (g:Nat):Prop:=∀ (s:ByteArray) (a n:Int) (p:ByteArray) (w:World),splB s a n p=true->(callFunc g #[.string s,.agg #[.int .i64 a,.int .i64 n,.string p]]).run P w = .ok (.enter g #[.string s,.agg #[.int .i64 a,.int .i64 n,.string p]]) w/\
 Calls P g #[.string s,.agg #[.int .i64 a,.int .i64 n,.string p]] w fun e w'=>e = .returned (.string (splT s a.toNat n.toNat p))/\Below w.heap.size w w'
structure EnvOk (E:Env):Prop where
 tt:EnvT E
 mixed:E.P.follows .mixedOrders=true
 ff : ∀ g fn, tget E.ff g = some fn -> E.P.funcs[g]? = some fn /\ (fn.name == "runtime.NumGoroutine") = false /\ ∃ c, fn.body = some c /\ codeOk E g fn.ntmps c = true
 xx:∀ g,tget E.xx g=some 1->∀ a b w,(callFunc g #[.string a,.string b]).run E.P w = .ok (.value (.int .i64 (Extern.BytealgCompare.cmp a b))) w
 x3:∀ g,tget E.xx g=some 3->∀ s c w,(callFunc g #[.string s,.int .u8 c]).run E.P w = .ok (.value (.int .i64 (idxB s c))) w
 x4:∀ g,tget E.xx g=some 4->Splices E.P g
 x5:∀ g,tget E.xx g=some 5->∀ T e,bldK E T=some e->Writes E.P g T e
 x6:∀ g,tget E.xx g=some 6->∀ T e,bldK E T=some e->Says E.P g T e
 x7:∀ g,tget E.xx g=some 7->Clones E.P g
 x2:∀ g,tget E.xx g=some 2->∀ w,(callFunc g #[]).run E.P w = .ok (.enter g #[]) w/\Calls E.P g #[] w fun e w'=>e = .returned (.bool true)/\Below w.heap.size w w'
theorem HR.below [LG] {θ:Th} {h:Hp} {w w':World} (hr:HR θ h w) (hb:Below w.heap.size w w'):HR θ h w':=by
 refine ⟨fun n e x he hx=>?_,hr.sep,hr.fresh⟩
 have r:=hr.ent n e x he hx
 have hc:∀ i,w'.cell? ⟨x.1,i,none⟩=w.cell? ⟨x.1,i,none⟩:=fun i=>by unfold World.cell?; rw [hb.block x.1 r.lt]
 have hf:∀ i,w'.frozen? ⟨x.1,i,none⟩=w.frozen? ⟨x.1,i,none⟩:=fun i=>by unfold World.frozen?; rw [hb.block x.1 r.lt]
 refine ⟨r.at_,Nat.lt_of_lt_of_le r.lt hb.size,fun i v hv=>?_,fun o ho=>(by rw [hb.block x.1 r.lt]; exact r.ob o ho),fun hu=>?_⟩
 .rw [hc,hf]; exact r.cell i v hv
 .obtain ⟨h1,h2⟩:=r.room hu
  refine ⟨h1,fun i hi=>?_⟩
  rw [hc,hf]; exact h2 i hi
theorem Ext.below {nm:Nat} {θ:Th} {h:Hp} {w w':World} (hb:Below w.heap.size w w'):Ext nm θ h w θ h w' where
 keep _ _ e:=e
 only _ _ _:=rfl
 nxt:=Nat.le_refl _
 size:=hb.size
 tape:=hb.tape
 os:=hb.os
 output:=hb.output
 frame b hlt _:=hb.block b hlt
 ownw n e x h1 hu h2:=.inr ⟨n,e,x,h1,hu,h2,rfl⟩
 own n e x h1 h2:=.inr ⟨n,e,x,h1,h2,rfl⟩
theorem args0_get:∀ (l:List Value) (T:Tm) (i t:Nat),tget (args0 T i l) t=if i<=t/\t<i+l.length then l[t-i]? else tget T t
 | [],T,i,t=>by simp only [args0]; rw [if_neg (by simp)]
 | v :: l,T,i,t=>by
   simp only [args0,args0_get l,tget_tset,List.length_cons]
   by_cases h1:i+1<=t/\t<i+1+l.length
   .rw [if_pos h1,if_pos (by omega)]
    have:t-i=(t-(i+1))+1:=by omega
    rw [this,List.getElem?_cons_succ]
   .rw [if_neg h1]
    by_cases h2:i=t
    .subst h2; rw [if_pos rfl,if_pos (by omega)]; simp
    .rw [if_neg h2,if_neg (by omega)]
theorem args_TR {θ:Th} {args cargs:List Value} (h:all2 (W θ) args cargs) (k:Nat):TR θ (args0 .nil 0 args) { tmps:=cargs.toArray++Array.replicate k undef,defers:=[] }:=by
 refine ⟨fun t v hv=>?_⟩
 rw [args0_get] at hv
 split at hv
 .rename_i hlt
  simp only [Nat.sub_zero] at hv
  obtain ⟨u,h1,h2⟩:=all2_get h t v hv
  refine ⟨u,?_,h2⟩
  have hl:=all2_len h
  have:t<cargs.length:=by omega
  rw [Array.getElem?_append_left (by simpa using this)]
  simpa using h1
 .cases hv
theorem noTup_V {θ:Th}:∀ {vs us:List Value},noTup vs=true->all2 (W θ) vs us->all2 (V θ) vs us
 | [],[],_,_=>trivial
 | v :: vs,u :: us,hn,h=>by
   have hv:V θ v u/\noTup vs=true:=by
    cases v<;>first | exact ⟨h.1,hn⟩ | (simp [noTup] at hn; done)
   exact ⟨hv.1,noTup_V hv.2 h.2⟩
 | [],_ :: _,_,h=>h.elim
 | _ :: _,[],_,h=>h.elim
theorem res_sound [LG] {E:Env} (hE:EnvT E) {θ:Th} {T:Tm} {h:Hp} {w:World} {a:Act} (hr:HR θ h w) (ht:TR θ T a):∀ {rs:List ResultVar} {vs:List Value},resA (opv T) h E rs=some vs->
 ∃ us:List Value,(rs.mapM fun | .tmp t=>pure (a.tmps.getD t undef) | .cell x t=>do loadVar t (<- asAddr (a.tmps.getD x undef)):Sem (List Value)).run E.P w = .ok us w/\all2 (W θ) vs us
 | [],vs,hx=>by cases hx; exact ⟨[],by simp,trivial⟩
 | .tmp t :: l,vs,hx=>by
   simp only [resA] at hx
   split at hx
   .rename_i v r h1 h2
    cases hx
    obtain ⟨us,k1,k2⟩:=res_sound hE hr ht h2
    obtain ⟨u,q1,q2⟩:=ht.tmps t v h1
    refine ⟨u :: us,?_,q2,k2⟩
    have hgd:a.tmps.getD t undef=u:=by simp [Array.getD_eq_getD_getElem?,q1]
    simp only [List.mapM_cons,Sem.run_bind,Sem.run_pure,Result.andThen_ok,k1,hgd]
   .cases hx
 | .cell x ty :: l,vs,hx=>by
   simp only [resA] at hx
   split at hx
   .rename_i ad ti r h1 h2 h3
    obtain ⟨us,k1,k2⟩:=res_sound hE hr ht h3
    obtain ⟨u,q1,q2⟩:=ht.tmps x _ h1
    obtain ⟨hs,y,hy,rfl⟩:ad.spot=none/\∃ y,θ ad.block=some y/\u = .pointer (some ⟨y.1,y.2.1+ad.off,none⟩):=q2
    obtain ⟨i,d,z,fl,g1,g2,g3,g4,g5,rfl⟩:=ti_spec (hE _ _ h2)
    have hgd:a.tmps.getD x undef = .pointer (some ⟨y.1,y.2.1+ad.off,none⟩):=by simp [Array.getD_eq_getD_getElem?,q1]
    have fin:∀ u',(loadVar ty ⟨y.1,y.2.1+ad.off,none⟩).run E.P w = .ok u' w->((ResultVar.cell x ty :: l).mapM fun | .tmp t=>pure (a.tmps.getD t undef) | .cell x t=>do loadVar t (<- asAddr (a.tmps.getD x undef)):Sem (List Value)).run E.P w = .ok (u' :: us) w:=by
     intro u' hu'
     rw [List.mapM_cons,Sem.run_bind]
     show ((do loadVar ty (<- asAddr (a.tmps.getD x undef)):Sem Value).run E.P w).andThen _=_
     have hh:(do loadVar ty (<- asAddr (a.tmps.getD x undef)):Sem Value).run E.P w = .ok u' w:=by rw [hgd]; simp [asAddr,hu']
     rw [hh]
     simp only [Result.andThen_ok,Sem.run_bind,k1,Sem.run_pure]
    simp only at hx
    cases hg:aggB d
    .simp only [hg,cond_false] at hx
     split at hx
     .rename_i v hl
      cases hx
      obtain ⟨ds,m1,m2,m3,m4⟩:=load_sound (P:=E.P) hr hl hy
      match ds,m4,m2,m3 with
      | [b],_,m2,m3 =>
        have:=m3 0 b (by simp)
        simp only [Nat.add_zero] at this
        exact ⟨b :: us,fin b (by simp [loadVar,run_isAgg g2,hg,this]),W_of_S m2.1,k2⟩
     .cases hx
    .simp only [hg,cond_true] at hx
     split at hx
     .rename_i cs hl
      cases hx
      obtain ⟨ds,m1,m2,m3,m4⟩:=load_sound (P:=E.P) hr hl hy
      exact ⟨.agg ds.toArray :: us,fin _ (by simp [loadVar,run_isAgg g2,hg,run_sizeOf g1,m1]),⟨ds,rfl,by simpa using m2⟩,k2⟩
     .cases hx
   .cases hx
theorem results_sound [LG] {E:Env} (hE:EnvT E) {θ:Th} {T:Tm} {h:Hp} {w:World} {a:Act} (hr:HR θ h w) (ht:TR θ T a) {fn:Func} {vs:List Value} {r:Value} (hx:resA (opv T) h E fn.results.toList=some vs) (ho:oneOf vs=some r):∃ u,(results fn a.tmps).run E.P w = .ok u w/\W θ r u:=by
 obtain ⟨us,k1,k2⟩:=res_sound hE hr ht hx
 have hl:=all2_len k2
 have hrun:(results fn a.tmps).run E.P w = .ok (if h:us.toArray.size=1 then us.toArray[0] else .tuple us.toArray) w:=by
  unfold results
  rw [Array.mapM_eq_mapM_toList]
  simp only [map_eq_pure_bind,bind_assoc,pure_bind,Sem.run_bind]
  refine (congrArg (fun r=>Result.andThen r _) k1).trans ?_
  rfl
 match vs,us,k2,ho,hrun with
 | [v],[u],k2,ho,hrun =>
   simp only [oneOf,Option.some.injEq] at ho
   subst ho
   exact ⟨u,by simpa using hrun,k2.1⟩
 | [],[],k2,ho,hrun =>
   simp only [oneOf,noTup,cond_true,Option.some.injEq] at ho
   subst ho
   exact ⟨.tuple #[],by simpa using hrun,⟨[],rfl,trivial⟩⟩
 | v1 :: v2 :: vs,u1 :: u2 :: us,k2,ho,hrun =>
   simp only [oneOf] at ho
   cases hn:noTup (v1 :: v2 :: vs)<;>simp only [hn,cond_true,cond_false,reduceCtorEq,Option.some.injEq] at ho
   subst ho
   refine ⟨.tuple (u1 :: u2 :: us).toArray,by simpa using hrun,⟨u1 :: u2 :: us,rfl,by simpa using noTup_V hn k2⟩⟩
 | [_],[],k2,_,_=>exact k2.elim
 | [_],_ :: _ :: _,k2,_,_=>exact k2.2.elim
 | [],_ :: _,k2,_,_=>exact k2.elim
 | _ :: _ :: _,[],k2,_,_=>exact k2.elim
 | _ :: _ :: _,[_],k2,_,_=>exact k2.2.elim
def InLoop (ro:Option Nat) (P:Program) (c:Code) (Q:Exit->Act->World->Prop) (a:Act) (w:World):Prop :=
 ∀ (b:Frame) (k:List Item) (cs:List Frame),b.roundOf=ro->∃ e a' w',Q e a' w'/\ArrivesIn (Machine.fenced P (FW ro)) P (lone (b.atR a (.code c :: .inLoop c :: k)) cs w) b k cs e a' w'
theorem fenced_FW {ro:Option Nat} {P:Program} (m:Machine):m.fenced P (FW ro):=fenced_wide P m
theorem InLoop.wp {ro:Option Nat} {P:Program} {c:Code} {Q:Exit->Act->World->Prop} {a:Act} {w:World} (h:InLoop ro P c Q a w):(Code.loop c).wpIn (FW ro) 0 P Q a w :=
 fun b k cs hro _ _=>let ⟨e,a',w',q,r⟩:=h b k cs hro; ⟨e,a',w',q,.of_steps (.one (fenced_FW _) stepR_loop) r⟩
theorem InLoop.once {ro:Option Nat} {P:Program} {Q:Exit->Act->World->Prop} {a:Act} {w:World} {c:Code} (h:c.wpIn (FW ro) 0 P (Exit.then (InLoop ro P c Q) Q) a w):InLoop ro P c Q a w:=by
 intro b k cs hro
 obtain ⟨e,a₁,w₁,hq,harr⟩:=h b (.inLoop c :: k) cs hro fn_FW (room_FW _)
 cases e with
 | normal =>
   obtain ⟨e₂,a₂,w₂,hq₂,harr₂⟩:=hq b k cs hro
   exact ⟨e₂,a₂,w₂,hq₂,.of_steps (StepsIn.trans harr (.one (fenced_FW _) stepR_inLoop)) harr₂⟩
 | exit id=>exact ⟨_,a₁,w₁,hq,.pass (x:=.inLoop c) rfl (fun _ _=>.inl (by simp)) harr⟩
 | goto l=>exact ⟨_,a₁,w₁,hq,.pass (x:=.inLoop c) rfl (fun _ _=>.inl (by simp)) harr⟩
 | ret=>exact ⟨_,a₁,w₁,hq,.pass (x:=.inLoop c) rfl (fun _ _=>.inl (by simp)) harr⟩
 | panic ch=>exact ⟨_,a₁,w₁,hq,.pass (x:=.inLoop c) rfl (fun _ _=>.inl (by simp)) harr⟩
 | outgrown=>exact ⟨_,a₁,w₁,hq,.pass (x:=.inLoop c) rfl (fun _ _=>.inl (by simp)) harr⟩
def LW (ro:Option Nat) (P:Program) (c:Code) (Q:Exit->Act->World->Prop) (a:Act) (w:World):Prop:=match c with
 | .loop c=>InLoop ro P c Q a w
 | c=>c.wpIn (FW ro) 0 P Q a w
theorem LW.wp {ro:Option Nat} {P:Program} {c:Code} {Q:Exit->Act->World->Prop} {a:Act} {w:World} (h:LW ro P c Q a w):c.wpIn (FW ro) 0 P Q a w:=by
 cases c<;>first | exact h | exact InLoop.wp h
def Mk (B:Nat) (θ:Th) (h:Hp) (w:World) (D:Nat):Prop:=B<=D/\w.heap[D]? = some (.deferred (some []))/\∀ n e x,tget h.m n=some e->θ n=some x->x.1≠D
def Marks (B:Nat) (θ:Th) (h:Hp) (w:World):List Deferred->Prop
 | []=>True
 | d :: ds=>(∃ D,d = { target:=.collected D,args:=#[] }/\Mk B θ h w D/\∀ d'∈ds,d'.target≠.collected D)/\Marks B θ h w ds
theorem lt_of_heap {w:World} {D:Nat} {o:Obj} (h:w.heap[D]? = some o):D<w.heap.size:=(Array.getElem?_eq_some_iff.1 h).1
theorem Mk.ext {B nm:Nat} {θ θ':Th} {h h':Hp} {w w':World} {D:Nat} (m:Mk B θ h w D) (e:Ext nm θ h w θ' h' w'):Mk B θ' h' w' D:=by
 obtain ⟨m0,m1,m2⟩:=m
 have hlt:=lt_of_heap m1
 refine ⟨m0,(e.frame D hlt fun n en x q1 _ q2=>m2 n en x q1 q2).trans m1,fun n en x q1 q2 q3=>?_⟩
 rcases e.own n en x q1 q2 with q4 | ⟨k,ek,y,q4,q5,q6⟩
 .omega
 .exact m2 k ek y q4 q5 (q6.trans q3)
theorem Marks.ext {B nm:Nat} {θ θ':Th} {h h':Hp} {w w':World} (e:Ext nm θ h w θ' h' w'):∀ {ds:List Deferred},Marks B θ h w ds->Marks B θ' h' w' ds
 | [],_=>trivial
 | _ :: _,⟨⟨D,h1,h2,h3⟩,h4⟩=>⟨⟨D,h1,h2.ext e,h3⟩,Marks.ext e h4⟩
theorem Marks.lt {B:Nat} {θ:Th} {h:Hp} {w:World}:∀ {ds:List Deferred},Marks B θ h w ds->∀ d∈ds,∀ D,d.target = .collected D->D<w.heap.size
 | [],_,d,hd,_,_=>by cases hd
 | _ :: _,⟨⟨D,h1,h2,_⟩,h4⟩,d,hd,D',hD'=>by
   rcases List.mem_cons.1 hd with rfl | hd
   .rw [h1] at hD'
    cases hD'
    exact lt_of_heap h2.2.1
   .exact Marks.lt h4 d hd D' hD'
theorem newLp_sound [LG] {θ:Th} {h:Hp} {w:World} (hr:HR θ h w) {L:Lp} {r:Loop} (hg:LG.good L) (hL:LpR θ L r) :
 HR (fun n=>if n=h.nxt then some (w.heap.size,0,0) else θ n) (newLp h L) (w.alloc (.loop r))/\Ext h.nxt θ h w (fun n=>if n=h.nxt then some (w.heap.size,0,0) else θ n) (newLp h L) (w.alloc (.loop r)):=by
 have hnm:θ h.nxt=none:=hr.fresh _ (Nat.le_refl _)
 have hkeep:∀ n x,θ n=some x->(fun n=>if n=h.nxt then some (w.heap.size,0,0) else θ n) n=some x:=by
  intro n x hx
  have:n≠h.nxt:=fun e=>by subst e; rw [hnm] at hx; cases hx
  simp only [if_neg this,hx]
 have hr1:=hr.alloc_free (.loop r)
 refine ⟨⟨?_,?_,?_⟩,hkeep,?_,?_,by simp,rfl,rfl,rfl,fun b hb _=>Below.heap_alloc _ _ _ hb,?_,?_⟩
 .intro n e x hn hx
  simp only [newLp,halloc,tget_tset] at hn
  by_cases hb:h.nxt=n
  .subst hb
   rw [if_pos rfl] at hn
   cases hn
   simp only [if_true,Option.some.injEq] at hx
   subst hx
   refine ⟨by simp,by simp,fun i v hi=>(by cases hi),fun o ho=>?_,fun hu=>absurd rfl hu⟩
   cases ho
   exact ObR_mono hkeep (⟨hg,r,World.alloc_heap_new w (.loop r),hL⟩:ObR θ _ (.loop L))
  .rw [if_neg hb] at hn
   simp only [if_neg (Ne.symm hb)] at hx
   have q:=hr1.ent _ _ _ hn hx
   exact ⟨hkeep _ _ q.at_,q.lt,fun i v hi=>let ⟨⟨u,k1,k2⟩,k3⟩:=q.cell i v hi; ⟨⟨u,k1,S_mono hkeep k2⟩,k3⟩,fun o ho=>ObR_mono hkeep (q.ob o ho),q.room⟩
 .intro n m e e' x y h1 h2 hne t1 t2
  simp only [newLp,halloc,tget_tset] at h1 h2
  by_cases hn:h.nxt=n
  .subst hn
   simp only [if_true] at t1
   rw [if_neg hne] at h2
   simp only [if_neg (Ne.symm hne)] at t2
   have:=(hr.ent _ _ _ h2 t2).lt
   cases t1
   simp only; omega
  .rw [if_neg hn] at h1
   simp only [if_neg (Ne.symm hn)] at t1
   by_cases hm:h.nxt=m
   .subst hm
    simp only [if_true] at t2
    have:=(hr.ent _ _ _ h1 t1).lt
    cases t2
    simp only; omega
   .rw [if_neg hm] at h2
    simp only [if_neg (Ne.symm hm)] at t2
    exact hr.sep n m e e' x y h1 h2 hne t1 t2
 .intro n hn
  simp only [newLp,halloc] at hn
  have h1:n≠h.nxt:=by omega
  simp only [if_neg h1]
  exact hr.fresh n (by omega)
 .intro n _ hne
  simp only [if_neg hne]
 .simp only [newLp,halloc]; omega
 .intro n e x h1 hu h2
  simp only [newLp,halloc,tget_tset] at h1
  by_cases hb:h.nxt=n
  .subst hb
   simp only [if_true] at h2
   cases h2
   exact .inl (Nat.le_refl _)
  .rw [if_neg hb] at h1
   simp only [if_neg (Ne.symm hb)] at h2
   exact .inr ⟨n,e,x,h1,hu,h2,rfl⟩
 .intro n e x h1 h2
  simp only [newLp,halloc,tget_tset] at h1
  by_cases hb:h.nxt=n
  .subst hb
   simp only [if_true] at h2
   cases h2
   exact .inl (Nat.le_refl _)
  .rw [if_neg hb] at h1
   simp only [if_neg (Ne.symm hb)] at h2
   exact .inr ⟨n,e,x,h1,h2,rfl⟩
theorem getLp_spec {h:Hp} {l:Nat} {L:Lp} (hg:getLp h l=some L):∃ e,tget h.m l=some e/\e.ob=some (.loop L)/\e.unk≠roU:=by
 unfold getLp at hg
 split at hg
 .rename_i e he
  cases hu0:Nat.beq e.unk 0<;>simp only [hu0,cond_true,cond_false,reduceCtorEq] at hg
  have hro:e.unk≠roU:=by rw [Nat.eq_of_beq_eq_true hu0]; unfold roU; omega
  split at hg
  .rename_i L' ho
   cases hg
   exact ⟨e,he,ho,hro⟩
  .cases hg
 .cases hg
theorem getLp_R [LG] {θ:Th} {h:Hp} {w:World} (hr:HR θ h w) {l:Nat} {L:Lp} {x:Nat × Nat × Nat} (hg:getLp h l=some L) (hx:θ l=some x):LG.good L/\∃ r,w.heap[x.1]? = some (.loop r)/\LpR θ L r:=by
 obtain ⟨e,he,ho,_⟩:=getLp_spec hg
 exact (hr.ent l e x he hx).ob _ ho
theorem setLp_sound [LG] {θ:Th} {h h':Hp} {w:World} (hr:HR θ h w) {l st:Nat} {pend:Option Code} {x:Nat × Nat × Nat} (hs:setLp h l st pend=some h') (hx:θ l=some x) :
 ∃ r,w.heap[x.1]? = some (.loop r)/\HR θ h' (w.putObj x.1 (.loop { r with state:=stOf st,pending:=pend }))/\∀ nm,Ext nm θ h w θ h' (w.putObj x.1 (.loop { r with state:=stOf st,pending:=pend })):=by
 unfold setLp at hs
 split at hs
 .rename_i e he
  cases hu0:Nat.beq e.unk 0<;>simp only [hu0,cond_true,cond_false,reduceCtorEq] at hs
  have hro:e.unk≠roU:=by rw [Nat.eq_of_beq_eq_true hu0]; unfold roU; omega
  split at hs
  .rename_i L ho
   cases hs
   have re:=hr.ent l e x he hx
   obtain ⟨g,r,hb,hL⟩:LG.good L/\∃ r,w.heap[x.1]? = some (.loop r)/\LpR θ L r:=re.ob _ ho
   have lift:∀ k ek,tget (tset h.m l (some ⟨.nil,0,0,some (.loop ⟨L.fn,L.N,L.ps,L.asg,L.body,L.ts,st,pend⟩)⟩)) k=some ek->∃ ek',tget h.m k=some ek':=by
    intro k ek hk
    rw [tget_tset] at hk
    split at hk
    .rename_i q; subst q; exact ⟨e,he⟩
    .exact ⟨ek,hk⟩
   refine ⟨r,hb,⟨fun n en y hn hy=>?_,fun n m e1 e2 y z h1 h2 hne t1 t2=>?_,hr.fresh⟩,fun nm=>⟨fun _ _ q=>q,fun _ _ _=>rfl,Nat.le_refl _,by rw [World.putObj_size]; exact Nat.le_refl _,rfl,rfl,rfl,fun b hb hno=>?_,fun n en y hn hu hy=>?_,fun n en y hn hy=>?_⟩⟩
   .simp only [tget_tset] at hn
    by_cases hne:l=n
    .subst hne
     rw [if_pos rfl] at hn
     cases hn
     have hxy:x=y:=by rw [hx] at hy; exact Option.some.inj hy
     subst hxy
     refine ⟨hx,by rw [World.putObj_size]; exact re.lt,fun i v hi=>(by cases hi),fun o ho'=>?_,fun hu=>absurd rfl hu⟩
     cases ho'
     exact ⟨g,_,World.putObj_heap_same re.lt,hL.ps,hL.asg,hL.body,rfl,rfl,hL.size,hL.ts⟩
    .rw [if_neg hne] at hn
     have rz:=hr.ent _ _ _ hn hy
     have hsep:=hr.sep _ _ _ _ _ _ hn he (Ne.symm hne) hy hx
     have hk:(w.putObj x.1 (.loop { r with state:=stOf st,pending:=pend })).heap[y.1]? = w.heap[y.1]?:=World.putObj_heap_other hsep
     refine ⟨rz.at_,by rw [World.putObj_size]; exact rz.lt,fun i v hv=>?_,fun q hq=>(by rw [hk]; exact rz.ob q hq),fun hu=>?_⟩
     .rw [World.cell?_of_block (w:=w) hk,World.frozen?_of_block (w:=w) hk]; exact rz.cell i v hv
     .obtain ⟨h1,h2⟩:=rz.room hu
      refine ⟨h1,fun i hi=>?_⟩
      rw [World.cell?_of_block (w:=w) hk,World.frozen?_of_block (w:=w) hk]; exact h2 i hi
   .obtain ⟨e1',h1'⟩:=lift n e1 h1
    obtain ⟨e2',h2'⟩:=lift m e2 h2
    exact hr.sep n m e1' e2' y z h1' h2' hne t1 t2
   .exact World.putObj_heap_other fun q=>hno l e x he hro hx q.symm
   .simp only [tget_tset] at hn
    split at hn
    .rename_i q; subst q; exact .inr ⟨_,_,_,he,hro,hy,rfl⟩
    .exact .inr ⟨_,_,_,hn,hu,hy,rfl⟩
   .simp only [tget_tset] at hn
    split at hn
    .rename_i q; subst q; exact .inr ⟨_,_,_,he,hy,rfl⟩
    .exact .inr ⟨_,_,_,hn,hy,rfl⟩
  .cases hs
 .cases hs
theorem dropE_sound [LG] {θ:Th} {h:Hp} {w:World} (hr:HR θ h w) {l:Nat} {x:Nat × Nat × Nat} {e:Ent} (he:tget h.m l=some e) (hu:e.unk≠roU) (hx:θ l=some x) (o:Obj) :
 HR θ (dropE h l) (w.putObj x.1 o)/\∀ nm,Ext nm θ h w θ (dropE h l) (w.putObj x.1 o):=by
 have down:∀ n en,tget (dropE h l).m n=some en->tget h.m n=some en/\l≠n:=by
  intro n en hn
  simp only [dropE,tget_tset] at hn
  by_cases q:l=n
  .rw [if_pos q] at hn; cases hn
  .rw [if_neg q] at hn; exact ⟨hn,q⟩
 have hr1:HR θ (dropE h l) w:=⟨fun n en y hn hy=>hr.ent n en y (down n en hn).1 hy,fun n m e1 e2 y z h1 h2 hne t1 t2=>hr.sep n m e1 e2 y z (down _ _ h1).1 (down _ _ h2).1 hne t1 t2,hr.fresh⟩
 refine ⟨hr1.put_free o fun n en y hn hy=>hr.sep n l en e y x (down n en hn).1 he (Ne.symm (down n en hn).2) hy hx,fun nm=>⟨fun _ _ q=>q,fun _ _ _=>rfl,Nat.le_refl _,by rw [World.putObj_size]; exact Nat.le_refl _,rfl,rfl,rfl,fun b hb hno=>World.putObj_heap_other fun q=>hno l e x he hu hx q.symm,fun n en y hn hq hy=>.inr ⟨_,_,_,(down n en hn).1,hq,hy,rfl⟩,fun n en y hn hy=>.inr ⟨_,_,_,(down n en hn).1,hy,rfl⟩⟩⟩
def RoR (θ:Th):Option Nat->Option Nat->Prop
 | none,none=>True
 | some n,some b=>∃ x,θ n=some x/\x.1=b
 | _,_=>False
theorem RoR.mono {θ θ':Th} (h:∀ n x,θ n=some x->θ' n=some x):∀ {q r:Option Nat},RoR θ q r->RoR θ' q r
 | none,none,_=>trivial
 | some _,some _,⟨x,h1,h2⟩=>⟨x,h _ _ h1,h2⟩
def Lead [LG] (E:Env) (q:Option Nat) (c:Code) (N:Nat) (T:Tm) (h:Hp) (x:Exit) (T':Tm) (h':Hp):Prop :=
 ∀ ro B θ a w Q,RoR θ q ro->B<=w.heap.size->Marks B θ h w a.defers->TR θ T a->N<=a.tmps.size->HR θ h w->
  (∀ θ' a' w',Ext h.nxt θ h w θ' h' w'->HR θ' h' w'->TR θ' T' a'->a'.tmps.size=a.tmps.size->Marks B θ' h' w' a'.defers->Q x a' w')->LW ro E.P c Q a w
def RunOk [LG] (E:Env) (run:Code->At->Tm->Hp->Option (Exit × Tm × Hp)):Prop :=
 ∀ c f N T h x T' h',run c f T h=some (x,T',h')->codeOk E f.fn N c=true->Lead E f.ro c N T h x T' h'
def LGOk [LG] (E:Env):Prop:=∀ L,LG.good L↔(codeOk E L.fn L.N L.asg=true/\codeOk E L.fn L.N L.body=true/\L.ps.all (fun t=>Nat.blt t L.N)=true)
theorem marks_leave [LG] {P:Program} {fn:Func} {tmps:Array Value} {R:Ending->World->Prop} {nm:Nat} {θ0 θ:Th} {h0 h:Hp} {w0:World}:∀ (ds:List Deferred) (w:World),Marks w0.heap.size θ h w ds->HR θ h w->Ext nm θ0 h0 w0 θ h w->
 (∀ w',HR θ h w'->Ext nm θ0 h0 w0 θ h w'->∃ v,(results fn tmps).run P w' = .ok v w'/\R (.returned v) w')->LeavesInM (FW none) 0 P fn tmps R ds .returning w
 | [],w,_,hr,e,hf=>hf w hr e
 | d :: ds,w,⟨⟨D,h1,⟨h2,h3,h4⟩,h5⟩,h6⟩,hr,e,hf=>by
   refine ⟨by simp,.inl ⟨D,_,by rw [h1],run_takeDeferred h3,?_⟩⟩
   refine marks_leave ds _ ?_ (hr.put_free _ h4) (e.put_free _ h2) hf
   have go:∀ l:List Deferred,(∀ d'∈l,d'.target≠.collected D)->Marks w0.heap.size θ h w l->Marks w0.heap.size θ h (w.putObj D (.deferred none)) l:=by
    intro l
    induction l with
    | nil=>exact fun _ _=>trivial
    | cons d' l ih =>
      rintro hne ⟨⟨D',k1,⟨k2,k3,k4⟩,k5⟩,k6⟩
      have hDD:D'≠D:=fun q=>hne d' (by simp) (by rw [k1,q])
      exact ⟨⟨D',k1,⟨k2,(World.putObj_heap_other hDD).trans k3,k4⟩,k5⟩,ih (fun z hz=>hne z (by simp [hz])) k6⟩
   exact go ds h5 h6
theorem putAll_get:∀ (l:List (Nat × Value)) (T:Tm) (t:Nat) (v:Value),tget (putAll T l) t=some v->(t,v)∈l\/tget T t=some v
 | [],T,t,v,h=>.inr h
 | p :: l,T,t,v,h=>by
   rcases putAll_get l _ t v h with q | q
   .exact .inl (by simp [q])
   .rw [tget_tset] at q
    split at q
    .rename_i e; cases q; subst e; exact .inl (by simp)
    .exact .inr q
theorem snap_mem {T:Tm}:∀ {n t:Nat} {v:Value},(t,v)∈snap T n->tget T t=some v
 | 0,t,v,h=>by cases h
 | n+1,t,v,h=>by
   simp only [snap] at h
   split at h
   .rename_i u hu
    rcases List.mem_cons.1 h with e | h
    .cases e; exact hu
    .exact snap_mem h
   .exact snap_mem h
theorem putPs_R {θ:Th}:∀ (ps:List Nat) (vs us:List Value) (T:Tm) (tm:Array Value),all2 (W θ) vs us->ps.length=vs.length->(∀ t∈ps,t<tm.size)->(∀ t v,tget T t=some v->∃ u,tm[t]? = some u/\W θ v u)->
 ∀ t v,tget (putPs T ps vs) t=some v->∃ u,((ps.zip us).foldl (fun tm (p:Nat × Value)=>tm.setIfInBounds p.1 p.2) tm)[t]? = some u/\W θ v u
 | [],vs,us,T,tm,ha,hl,hlt,hT=>by
   cases vs with
   | nil=>intro t v h; exact hT t v h
   | cons a b=>cases hl
 | p :: ps,v0 :: vs,u0 :: us,T,tm,ha,hl,hlt,hT=>by
   intro t v h
   refine putPs_R ps vs us (tset T p (some v0)) (tm.setIfInBounds p u0) ha.2 (by simpa using hl) (fun t ht=>by simpa using hlt t (by simp [ht])) ?_ t v h
   intro t v h
   rw [tget_tset] at h
   rw [Array.getElem?_setIfInBounds]
   split at h
   .rename_i e
    subst e
    cases h
    have:=hlt p (by simp)
    exact ⟨u0,by simp [this],ha.1⟩
   .rename_i e
    obtain ⟨u,k1,k2⟩:=hT t v h
    exact ⟨u,by simp [e,k1],k2⟩
 | p :: ps,[],us,T,tm,ha,hl,hlt,hT=>by cases hl
 | p :: ps,v0 :: vs,[],T,tm,ha,hl,hlt,hT=>ha.elim
theorem fold_size:∀ (l:List (Nat × Value)) (tm:Array Value),(l.foldl (fun tm (p:Nat × Value)=>tm.setIfInBounds p.1 p.2) tm).size=tm.size
 | [],tm=>rfl
 | p :: l,tm=>by rw [List.foldl_cons,fold_size l]; simp
def endSt:Exit->Option (Nat × Option Code)
 | .normal=>some (0,none)
 | .ret=>some (2,some .ret)
 | .exit i=>some (2,some (.exit i))
 | _=>none
theorem round_sound [LG] {E:Env} (hG:LGOk E) {l:Nat} {args cargs:List Value} {h h1 h2 h3 h':Hp} {L L1:Lp} {T1 T3:Tm} {c:Exit} {st:Nat} {pend:Option Code} (hL:getLp h l=some L) (hst0:L.st=0) (hlen:L.ps.length=args.length)
 (lead1:codeOk E L.fn L.N L.asg=true->Lead E (some l) L.asg L.N (putPs (putAll .nil L.ts) L.ps args) h .normal T1 h1) (hL1:getLp h1 l=some L1) (hst1:L1.st=0) (hs2:setLp h1 l 1 L1.pend=some h2) (lead2:codeOk E L.fn L.N L.body=true->Lead E (some l) L.body L.N T1 h2 c T3 h3) (hc:endSt c=some (st,pend)) (hs4:setLp h3 l st pend=some h')
 {θ:Th} {w:World} (hr:HR θ h w) (ha:all2 (W θ) args cargs) {x:Nat × Nat × Nat} (hxl:θ l=some x) :
 YieldAt Fence.wide 0 E.P x.1 cargs.toArray w (fun e w'=>∃ θ' u,e = .returned u/\Ext h.nxt θ h w θ' h' w'/\HR θ' h' w'/\W θ' (.bool pend.isNone) u):=by
 obtain ⟨g,rr,hb,hLr⟩:=getLp_R hr hL hxl
 obtain ⟨g1,g2,g3⟩:=(hG L).1 g
 have hcl:=all2_len ha
 have hps:cargs.toArray.size=rr.params.size:=by
  have:rr.params.size=L.ps.length:=by rw [<- hLr.ps]; simp
  simp; omega
 refine ⟨_,_,_,_,run_yield hb hps,roundIn_of_wpIn (F:=Fence.wide) trivial ?_⟩
 rw [hLr.asg,hLr.body]
 have hsz:∀ t∈L.ps,t<rr.tmps.size:=fun t ht=>by
  rw [List.all_eq_true] at g3
  exact Nat.lt_of_lt_of_le (blt_lt (g3 t ht)) hLr.size
 have hz:(rr.params.zip cargs.toArray).foldl (fun tmps (x:Tmp × Value)=>match x with | (t,a)=>tmps.setIfInBounds t a) rr.tmps=(L.ps.zip cargs).foldl (fun tm (p:Nat × Value)=>tm.setIfInBounds p.1 p.2) rr.tmps:=by
  rw [<- hLr.ps,<- Array.foldl_toList,Array.toList_zip]
 have hN:L.N<=((L.ps.zip cargs).foldl (fun tm (p:Nat × Value)=>tm.setIfInBounds p.1 p.2) rr.tmps).size:=by rw [fold_size]; exact hLr.size
 have htr:TR θ (putPs (putAll .nil L.ts) L.ps args) { tmps:=(rr.params.zip cargs.toArray).foldl (fun tmps (x:Tmp × Value)=>match x with | (t,a)=>tmps.setIfInBounds t a) rr.tmps,defers:=[] }:=by
  rw [hz]
  refine ⟨putPs_R L.ps args cargs _ _ ha hlen hsz fun t v ht=>?_⟩
  rcases putAll_get _ _ t v ht with q | q
  .exact hLr.ts t v q
  .cases q
 refine (lead1 g1 (some x.1) 0 θ ⟨_,[]⟩ w _ ⟨x,hxl,rfl⟩ (Nat.zero_le _) trivial htr (by rw [hz]; exact hN) hr fun θ1 a1 w1 e1 r1 t1 s1 m1=>?_).wp
 have hx1:=e1.keep _ _ hxl
 obtain ⟨_,rr1,hb1,hLr1⟩:=getLp_R r1 hL1 hx1
 obtain ⟨rr1',hb1',hr2,he2⟩:=setLp_sound r1 hs2 hx1
 have e11:rr1'=rr1:=by rw [hb1] at hb1'; cases hb1'; rfl
 subst e11
 have hst:rr1'.state = .ready:=by rw [hLr1.st,hst1]; rfl
 have hw2:(Instr.beginRound x.1).run E.P w1 = .ok () (w1.putObj x.1 (.loop { rr1' with state:=stOf 1,pending:=L1.pend })):=by
  rw [run_beginRound hb1 hst,<- hLr1.pend]
  rfl
 refine ⟨_,hw2,?_⟩
 have e12:=e1.trans (he2 h.nxt) (fun n hn h3 e=>h3 e)
 refine (lead2 g2 (some x.1) 0 θ1 a1 _ _ ⟨x,hx1,rfl⟩ (Nat.zero_le _) (m1.ext (he2 h.nxt)) t1 (by rw [s1,hz]; exact hN) hr2 fun θ3 a3 w3 e3 r3 t3 s3 m3=>?_).wp
 obtain ⟨rr3,hb3',hr4,he4⟩:=setLp_sound r3 hs4 (e3.keep _ _ hx1)
 have fin:stOf st=(if pend.isNone then .ready else .done)->∃ v w',(Instr.endRound x.1 pend).run E.P w3 = .ok v w'/\∃ θ' u,Ending.returned v = .returned u/\Ext h.nxt θ h w θ' h' w'/\HR θ' h' w'/\W θ' (.bool pend.isNone) u:=by
  intro hst4
  refine ⟨_,_,run_endRound pend hb3',θ3,_,rfl,?_,?_,rfl⟩
  .rw [<- hst4]
   exact (e12.trans e3 (fun n hn _ q=>by have:=e12.nxt; omega)).trans (he4 h.nxt) (fun n hn h4 q=>h4 q)
  .rw [<- hst4]; exact hr4
 cases c<;>simp only [endSt,reduceCtorEq,Option.some.injEq,Prod.mk.injEq] at hc
 all_goals
  obtain ⟨rfl,rfl⟩:=hc
  exact fin rfl
theorem yield_sound [LG] {E:Env} (hG:LGOk E) {run:Code->At->Tm->Hp->Option (Exit × Tm × Hp)} (hrun:RunOk E run) {l:Nat} {args cargs:List Value} {h h':Hp} {r:Value} (hx:yieldA run l args h=some (r,h')) {θ:Th} {w:World} (hr:HR θ h w) (ha:all2 (W θ) args cargs) {x:Nat × Nat × Nat} (hxl:θ l=some x) :
 YieldAt Fence.wide 0 E.P x.1 cargs.toArray w (fun e w'=>∃ θ' u,e = .returned u/\Ext h.nxt θ h w θ' h' w'/\HR θ' h' w'/\W θ' r u):=by
 unfold yieldA at hx
 obtain ⟨L,hL,hx⟩:=ob_some hx
 cases hq:(Nat.beq L.st 0&&Nat.beq L.ps.length args.length)<;>simp only [hq,cond_true,cond_false,reduceCtorEq] at hx
 simp only [Bool.and_eq_true] at hq
 split at hx
 .rename_i T1 h1 hasg
  obtain ⟨L1,hL1,hx⟩:=ob_some hx
  cases hq1:Nat.beq L1.st 0<;>simp only [hq1,cond_true,cond_false,reduceCtorEq] at hx
  obtain ⟨h2,hs2,hx⟩:=ob_some hx
  split at hx
  .rename_i T3 h3 hb3
   obtain ⟨h4,hs4,hx⟩:=ob_some hx
   cases hx
   exact round_sound hG hL (Nat.eq_of_beq_eq_true hq.1) (Nat.eq_of_beq_eq_true hq.2) (fun k=>hrun _ _ _ _ _ _ _ _ hasg k) hL1 (Nat.eq_of_beq_eq_true hq1) hs2 (fun k=>hrun _ _ _ _ _ _ _ _ hb3 k) rfl hs4 hr ha hxl
  .rename_i T3 h3 hb3
   obtain ⟨h4,hs4,hx⟩:=ob_some hx
   cases hx
   exact round_sound hG hL (Nat.eq_of_beq_eq_true hq.1) (Nat.eq_of_beq_eq_true hq.2) (fun k=>hrun _ _ _ _ _ _ _ _ hasg k) hL1 (Nat.eq_of_beq_eq_true hq1) hs2 (fun k=>hrun _ _ _ _ _ _ _ _ hb3 k) rfl hs4 hr ha hxl
  .rename_i i T3 h3 hb3
   obtain ⟨h4,hs4,hx⟩:=ob_some hx
   cases hx
   exact round_sound hG hL (Nat.eq_of_beq_eq_true hq.1) (Nat.eq_of_beq_eq_true hq.2) (fun k=>hrun _ _ _ _ _ _ _ _ hasg k) hL1 (Nat.eq_of_beq_eq_true hq1) hs2 (fun k=>hrun _ _ _ _ _ _ _ _ hb3 k) rfl hs4 hr ha hxl
  .cases hx
 .cases hx
theorem body_sound [LG] {E:Env} (hE:EnvOk E) {g:Nat} {fn:Func} (hfn:tget E.ff g=some fn) {cargs args:List Value} {θ:Th} {h h':Hp} {w:World} {r:Value} {T1:Tm} {x:Exit} (hx:x = .normal\/x = .ret) {vs:List Value} (k1:resA (opv T1) h' E fn.results.toList=some vs) (k3:oneOf vs=some r) {c:Code} (f3:fn.body=some c)
 (hw:∀ Q:Exit->Act->World->Prop,(∀ θ' a' w',Ext h.nxt θ h w θ' h' w'->HR θ' h' w'->TR θ' T1 a'->Marks w.heap.size θ' h' w' a'.defers->Q x a' w')->c.wpIn (FW none) 0 E.P Q { tmps:=cargs.toArray++Array.replicate (fn.ntmps-cargs.toArray.size) undef,defers:=[] } w) :
 (callFunc g cargs.toArray).run E.P w = .ok (.enter g cargs.toArray) w/\Calls E.P g cargs.toArray w (fun e w'=>∃ θ' u,e = .returned u/\Ext h.nxt θ h w θ' h' w'/\HR θ' h' w'/\W θ' r u):=by
 obtain ⟨f1,f2,c',f3',f4⟩:=hE.ff g fn hfn
 have f2' : ¬ fn.name = "runtime.NumGoroutine" := fun e => by rw [e] at f2; simp at f2
 refine ⟨by simp [callFunc,f1,f2',f3],?_⟩
 refine (callsIn_wide (n:=0)).1 (callsIn_of_wp_marks (F:=FW none) f1 f3 trivial ?_)
 refine hw _ fun θ' a' w' e1 r1 t1 m1=>?_
 have fin:LeavesInM (FW none) 0 E.P fn a'.tmps (fun e w'=>∃ θ' u,e = .returned u/\Ext h.nxt θ h w θ' h' w'/\HR θ' h' w'/\W θ' r u) a'.defers .returning w':=by
  refine marks_leave a'.defers w' m1 r1 e1 fun w2 r2 e2=>?_
  obtain ⟨u,q1,q2⟩:=results_sound hE.tt r2 t1 k1 k3
  exact ⟨u,q1,θ',u,rfl,e2,r2,q2⟩
 rcases hx with rfl | rfl<;>exact fin
theorem call_sound [LG] {E:Env} (hE:EnvOk E) (hG:LGOk E) {run:Code->At->Tm->Hp->Option (Exit × Tm × Hp)} (hrun:RunOk E run) (h:Hp):CallAt E.P (callA E run) h.nxt h:=by
 intro g args r h' hx θ w cargs hr hargs
 unfold callA at hx
 cases hlt:Nat.blt g unkU<;>simp only [hlt,cond_true,cond_false] at hx
 .have hge:=blt_ge hlt
  exact ⟨fun q=>by omega,fun _ x hx0=>yield_sound hG hrun hx hr hargs hx0⟩
 refine ⟨fun _=>?_,fun q=>by have:=blt_lt hlt; omega⟩
 split at hx
 .unfold xext at hx
  split at hx
  .refine .inr ?_
   rename_i a b hg
   cases hx
   obtain ⟨y,xv,hm,hw1,hw2⟩:=all2_two hargs
   subst hm
   have e1:y = .string a:=hw1
   have e2:xv = .string b:=hw2
   subst e1; subst e2
   exact ⟨_,hE.xx g hg a b w,rfl,rfl⟩
  .refine .inl ?_
   rename_i hg
   cases hx
   have hc:cargs=[]:=by cases cargs with
    | nil=>rfl
    | cons a b=>exact hargs.elim
   subst hc
   obtain ⟨h1,h2⟩:=hE.x2 g hg w
   refine ⟨h1,h2.mono fun e w' ⟨he,hb⟩=>⟨θ,.bool true,he,Ext.below hb,hr.below hb,rfl⟩⟩
  .refine .inr ?_
   rename_i s c hg
   cases hx
   obtain ⟨y,xv,hm,hw1,hw2⟩:=all2_two hargs
   subst hm
   have e1:y = .string s:=hw1
   have e2:xv = .int .u8 c:=hw2
   subst e1; subst e2
   exact ⟨_,hE.x3 g hg s c w,rfl,rfl⟩
  .refine .inl ?_
   rename_i s cs hg
   unfold splX at hx
   split at hx
   .rename_i a n p hcs
    cases hb:splB s a n p<;>simp only [hb,cond_true,cond_false] at hx
    .cases hx
    cases hx
    obtain ⟨y,xv,hm,hw1,hw2⟩:=all2_two hargs
    subst hm
    have e1:y = .string s:=hw1
    have hcs':cs = #[.int .i64 a,.int .i64 n,.string p]:=by
     apply Array.toList_inj.1
     rw [hcs]
    subst hcs'
    have e2:xv = .agg #[.int .i64 a,.int .i64 n,.string p]:=plainA_eq rfl hw2
    subst e1; subst e2
    obtain ⟨h1,h2⟩:=hE.x4 g hg s a n p w hb
    refine ⟨h1,h2.mono fun e w' ⟨he,hbl⟩=>⟨θ,.string _,he,Ext.below hbl,hr.below hbl,rfl⟩⟩
   .cases hx
  .refine .inl ?_
   rename_i b t hg
   obtain ⟨hh,k1,k2⟩:=ob_some hx
   cases k2
   obtain ⟨y,xv,hm,hw1,hw2⟩:=all2_two hargs
   subst hm
   obtain ⟨_,x,hx0,e1⟩:(⟨b,0,none⟩:Addr).spot=none/\∃ x,θ b=some x/\y = .pointer (some ⟨x.1,x.2.1+0,none⟩):=hw1
   have e2:xv = .string t:=hw2
   obtain ⟨g0,g1,T,e,v,s,g2,g3,g4⟩:=write_sound hr k1 hx0
   rw [g0] at e1
   subst e1; subst e2
   obtain ⟨h1,h2⟩:=hE.x5 g hg T e g2 x.1 v s t w g3 g1
   refine ⟨h1,h2.mono fun e w' ⟨he,v',hb⟩=>?_⟩
   obtain ⟨θ',q1,q2⟩:=g4 v' w' hb
   exact ⟨θ',_,he,q1,q2,⟨_,rfl,rfl,rfl,trivial⟩⟩
  .refine .inl ?_
   rename_i b hg
   obtain ⟨r0,k1,k2⟩:=ob_some hx
   obtain ⟨rs,hh⟩:=r0
   cases k2
   have hc:∃ y,cargs=[y]/\W θ (.pointer (some ⟨b,0,none⟩)) y:=by
    match cargs,hargs with
    | [y],q=>exact ⟨y,rfl,q.1⟩
    | _ :: _ :: _,q=>exact q.2.elim
   obtain ⟨y,hm,hw1⟩:=hc
   subst hm
   obtain ⟨_,x,hx0,e1⟩:(⟨b,0,none⟩:Addr).spot=none/\∃ x,θ b=some x/\y = .pointer (some ⟨x.1,x.2.1+0,none⟩):=hw1
   obtain ⟨g0,T,e,v,g2,g3,g4⟩:=str_sound hr k1 hx0
   rw [g0] at e1
   subst e1
   obtain ⟨h1,h2⟩:=hE.x6 g hg T e g2 x.1 v rs w g3
   refine ⟨h1,h2.mono fun e w' ⟨he,hb⟩=>?_⟩
   obtain ⟨q1,q2⟩:=g4 w' hb
   exact ⟨θ,_,he,q1,q2,rfl⟩
  .refine .inl ?_
   rename_i s hg
   cases hq:Nat.ble s.size 1000000<;>simp only [hq,cond_true,cond_false,reduceCtorEq] at hx
   cases hx
   have hc:∃ y,cargs=[y]/\W θ (.string s) y:=by
    match cargs,hargs with
    | [y],q=>exact ⟨y,rfl,q.1⟩
    | _ :: _ :: _,q=>exact q.2.elim
   obtain ⟨y,hm,hw1⟩:=hc
   subst hm
   have e1:y = .string s:=hw1
   subst e1
   obtain ⟨h1,h2⟩:=hE.x7 g hg s w (Nat.le_of_ble_eq_true hq)
   refine ⟨h1,h2.mono fun e w' ⟨he,hbl⟩=>⟨θ,.string _,he,Ext.below hbl,hr.below hbl,rfl⟩⟩
  .cases hx
 .rename_i fn hfn
  refine .inl ?_
  obtain ⟨f1,f2,c,f3,f4⟩:=hE.ff g fn hfn
  rw [f3] at hx
  simp only at hx
  have hsz:fn.ntmps<=(cargs.toArray++Array.replicate (fn.ntmps-cargs.toArray.size) undef).size:=by simp; omega
  split at hx
  .rename_i T1 h1 hev
   obtain ⟨vs,k1,k2⟩:=ob_some hx
   obtain ⟨r',k3,k4⟩:=ob_some k2
   cases k4
   exact body_sound (args:=args) hE hfn (.inl rfl) k1 k3 f3 fun Q hQ=>(hrun c ⟨g,none⟩ fn.ntmps _ h _ _ _ hev f4 none w.heap.size θ ⟨_,[]⟩ w _ trivial (Nat.le_refl _) trivial (args_TR hargs _) hsz hr fun θ' a' w' e1 r1 t1 _ m1=>hQ θ' a' w' e1 r1 t1 m1).wp
  .rename_i T1 h1 hev
   obtain ⟨vs,k1,k2⟩:=ob_some hx
   obtain ⟨r',k3,k4⟩:=ob_some k2
   cases k4
   exact body_sound (args:=args) hE hfn (.inr rfl) k1 k3 f3 fun Q hQ=>(hrun c ⟨g,none⟩ fn.ntmps _ h _ _ _ hev f4 none w.heap.size θ ⟨_,[]⟩ w _ trivial (Nat.le_refl _) trivial (args_TR hargs _) hsz hr fun θ' a' w' e1 r1 t1 _ m1=>hQ θ' a' w' e1 r1 t1 m1).wp
  .cases hx
theorem run_enterLoop_inner {P:Program} {w:World} {b0:Nat} {r0:Loop} (hb:w.heap[b0]? = some (.loop r0)) (fn:FuncId) (tmps:Array Value) (ps:Array Tmp) (assign body:Code) :
 (Instr.enterLoop fn tmps ps assign body (some b0)).run P w = .ok (w.heap.size,[]) (w.alloc (.loop { state:=.ready,pending:=none,fn,tmps,params:=ps,assign,body,defers:=r0.defers })):=by
 unfold Instr.enterLoop
 simp only [Sem.run_bind,run_getLoop hb,run_newObj_alloc,Result.andThen,Sem.run_pure]
theorem range_sound [LG] {E:Env} (hE:EnvOk E) (hG:LGOk E) {call:Nat->List Value->Hp->Option (Value × Hp)} (hcall:∀ h,CallAt E.P call h.nxt h) {g:Operand} {ps:Array Tmp} {asg body:Code} {f:At} {N:Nat} {T:Tm} {h h':Hp} {x:Exit} (hc:codeOk E f.fn N (.rangeFunc g ps asg body)=true) (hro:roOk h f.ro=true)
 {it:Nat} {first cap:Array Value} {fn:Func} (hv:opv T g=some (.func (.func it) first cap)) (hfn:tget E.ff f.fn=some fn) (hit:it<unkU) (hits:(tget E.ff it).isSome=true) {v:Value} {h1:Hp}
 (hx:call it (first.toList++[.func (.yield h.nxt) #[] #[]]++cap.toList) (newLp h ⟨f.fn,fn.ntmps,ps.toList,asg,body,snap T fn.ntmps,0,none⟩)=some (v,h1)) {α:Type} {TT TT':α} (hend:endA h1 h.nxt TT=some (x,TT',h'))
 {ro:Option Nat} {B:Nat} {θ:Th} {a:Act} {w:World} {Q:Exit->Act->World->Prop} (hR:RoR θ f.ro ro) (hB:B<=w.heap.size) (hm:Marks B θ h w a.defers) (ht:TR θ T a) (hN:N<=a.tmps.size) (hr:HR θ h w)
 (hQ:∀ θ' a' w',Ext h.nxt θ h w θ' h' w'->HR θ' h' w'->TR θ' T a'->a'.tmps.size=a.tmps.size->Marks B θ' h' w' a'.defers->Q x a' w'):TT'=TT/\(Code.rangeFunc g ps asg body).wpIn (FW ro) 0 E.P Q a w:=by
 simp only [codeOk,Bool.and_eq_true,hfn] at hc
 obtain ⟨⟨⟨c1,c2⟩,c3⟩,c4⟩:=hc
 have hNN:fn.ntmps=N:=Nat.eq_of_beq_eq_true c1
 have hTT:TT'=TT:=by
  unfold endA at hend
  obtain ⟨Le,_,q⟩:=ob_some hend
  cases hb:Nat.beq Le.st 1<;>simp only [hb,cond_true,cond_false,reduceCtorEq] at q
  split at q<;>cases q<;>rfl
 refine ⟨hTT,wpIn_rangeFunc fun fnb _=>?_⟩
 obtain ⟨fa,fb,e3,q1,q2⟩:∃ a' b':List Value,a.eval g = .func (.func it) a'.toArray b'.toArray/\all2 (V0 θ) first.toList a'/\all2 (V0 θ) cap.toList b':=opv_W ht hv
 have hgood:LG.good (⟨f.fn,fn.ntmps,ps.toList,asg,body,snap T fn.ntmps,0,none⟩:Lp):=(hG _).2 ⟨by rw [hNN]; exact c3,by rw [hNN]; exact c4,by rw [hNN]; exact c2⟩
 have hV:∀ {θ1:Th} {l m:List Value},(∀ n x,θ n=some x->θ1 n=some x)->all2 (V0 θ) l m->all2 (W θ1) l m:=fun hk q=>all2_mono (fun _ _ z=>W_mono hk (W_of_V (V_of_V0 z))) q
 obtain ⟨fni,hfni⟩:=Option.isSome_iff_exists.1 hits
 -- from the record on
 have main:∀ (wD:World) (mark:List Deferred) (dfr:Nat),HR θ h wD->Ext h.nxt θ h w θ h wD->Marks B θ h wD (mark++a.defers)->
  (Instr.enterLoop fnb a.tmps ps asg body (FW ro).round).run E.P w = .ok (wD.heap.size,mark) (wD.alloc (.loop { state:=.ready,pending:=none,fn:=fnb,tmps:=a.tmps,params:=ps,assign:=asg,body:=body,defers:=dfr }))->
  ∃ (l:Nat) (mark:List Deferred) (w₁:World) (d:Deferred) (w₁':World) (f:FuncId) (args:Array Value) (w₂:World),
   (Instr.enterLoop fnb a.tmps ps asg body (FW ro).round).run E.P w = .ok (l,mark) w₁/\(resolve a.eval (rangeCall g l) 0).run E.P w₁ = .ok d w₁'/\(∀ f',Target.leads E.P w₁' d.target d.args=some f'->(FW ro).fn f')/\
   (invoke d.target d.args).run E.P w₁' = .ok (.enter f args) w₂/\((FW ro).depth.isSome=true->1<=0)/\CallsIn (FW ro) (0-1) E.P f args w₂ (rangePost (FW ro) 0 E.P l Q { a with defers:=mark++a.defers }):=by
  intro wD mark dfr hrD heD hmD hen
  have hLr:LpR θ (⟨f.fn,fn.ntmps,ps.toList,asg,body,snap T fn.ntmps,0,none⟩:Lp) { state:=.ready,pending:=none,fn:=fnb,tmps:=a.tmps,params:=ps,assign:=asg,body:=body,defers:=dfr } :=
   ⟨rfl,rfl,rfl,rfl,rfl,by show fn.ntmps<=_; rw [hNN]; exact hN,fun t u hm=>ht.tmps t u (snap_mem hm)⟩
  obtain ⟨hr1,he1⟩:=newLp_sound hrD hgood hLr
  generalize hθ1:(fun n=>if n=h.nxt then some (wD.heap.size,0,0) else θ n)=θ1 at hr1 he1
  have hx1:θ1 h.nxt=some (wD.heap.size,0,0):=by rw [<- hθ1]; simp
  have hargs:all2 (W θ1) (first.toList++[.func (.yield h.nxt) #[] #[]]++cap.toList) (fa++[Value.func (.yield wD.heap.size) #[] #[]]++fb) :=
   all2_append (all2_append (hV he1.keep q1) ⟨⟨_,hx1,rfl⟩,trivial⟩) (hV he1.keep q2)
  generalize hw1:wD.alloc (.loop { state:=.ready,pending:=none,fn:=fnb,tmps:=a.tmps,params:=ps,assign:=asg,body:=body,defers:=dfr })=w1 at hr1 he1 hen
  obtain ⟨f1,f2,cc,f3,_⟩:=hE.ff it fni hfni
  have f2' : ¬ fni.name = "runtime.NumGoroutine" := fun e => by rw [e] at f2; simp at f2
  have henter:(callFunc it (fa++[Value.func (.yield wD.heap.size) #[] #[]]++fb).toArray).run E.P w1 = .ok (.enter it (fa++[Value.func (.yield wD.heap.size) #[] #[]]++fb).toArray) w1:=by simp [callFunc,f1,f2',f3]
  have hCalls:=((hcall _ it _ v h1 hx θ1 w1 _ hr1 hargs).1 hit).resolve_right fun ⟨u,k1,_,_⟩=>by rw [henter] at k1; cases k1
  refine ⟨wD.heap.size,mark,w1,{ target:=.fn (.func it) fb.toArray,args:=fa.toArray ++ #[Value.func (.yield wD.heap.size) #[] #[]] },w1,it,(fa++[Value.func (.yield wD.heap.size) #[] #[]]++fb).toArray,w1,hen,?_,fun _ _=>trivial,?_,depth_FW,?_⟩
  .have hcon:a.eval (.const (Value.func (.yield wD.heap.size) #[] #[]))=Value.func (.yield wD.heap.size) #[] #[]:=rfl
   simp [resolve,rangeCall,e3,Deferred.ofValue,hcon]
  .have:(invoke (.fn (.func it) fb.toArray) (fa.toArray ++ #[Value.func (.yield wD.heap.size) #[] #[]])).run E.P w1=(callFunc it (fa++[Value.func (.yield wD.heap.size) #[] #[]]++fb).toArray).run E.P w1:=by
    simp [invoke]
   rw [this]; exact henter
  .refine (callsIn_FW hCalls.2).mono fun e w3 he=>?_
   obtain ⟨θ3,u,rfl,e2,r3,_⟩:=he
   have hx3:=e2.keep _ _ hx1
   unfold endA at hend
   obtain ⟨Le,hLe,q⟩:=ob_some hend
   cases hb:Nat.beq Le.st 1<;>simp only [hb,cond_true,cond_false,reduceCtorEq] at q
   obtain ⟨_,re,hbe,hLre⟩:=getLp_R r3 hLe hx3
   obtain ⟨ee,hee,hoe,hue⟩:=getLp_spec hLe
   have hnb:re.state≠.busy:=by
    rw [hLre.st]
    intro z
    match hs:Le.st with
    | 0=>rw [hs] at z; cases z
    | 1=>rw [hs] at hb; cases hb
    | n+2=>rw [hs] at z; cases z
   have eall:Ext h.nxt θ h w θ3 h1 w3:=(heD.trans he1 (fun n _ z=>z)).trans e2 (fun n hn _ z=>by have:h.nxt<=(newLp h ⟨f.fn,fn.ntmps,ps.toList,asg,body,snap T fn.ntmps,0,none⟩).nxt:=he1.nxt; omega)
   have eD:Ext h.nxt θ h wD θ3 h1 w3:=he1.trans e2 (fun n hn _ z=>by have:h.nxt<=(newLp h ⟨f.fn,fn.ntmps,ps.toList,asg,body,snap T fn.ntmps,0,none⟩).nxt:=he1.nxt; omega)
   obtain ⟨r4,e4⟩:=dropE_sound r3 hee hue hx3 (.loop { re with state:=.exhausted })
   refine ⟨Le.pend,_,(run_endLoop hbe hnb).trans (congrArg (fun j=>Result.ok j _) hLre.pend),?_⟩
   have hfin:h'=dropE h1 h.nxt->Q x { a with defers:=mark++a.defers } (w3.putObj wD.heap.size (.loop { re with state:=.exhausted })):=by
    intro hh
    subst hh
    exact hQ θ3 _ _ (eall.trans (e4 h.nxt) (fun n _ z=>z)) r4 (ht.mono eall.keep |> fun z=>⟨z.tmps⟩) rfl (hmD.ext (eD.trans (e4 h.nxt) (fun n _ z=>z)))
   split at q
   .rename_i hp
    cases q
    rw [hp]
    exact hfin rfl
   .rename_i hp
    cases q
    rw [hp]
    exact wpIn_ret (hfin rfl)
   .rename_i i hp
    cases q
    rw [hp]
    exact wpIn_exit (hfin rfl)
   .cases q
 cases hfr:f.ro with
 | none =>
   rw [hfr] at hR
   cases ro with
   | some b=>exact hR.elim
   | none =>
     refine main (w.alloc (.deferred (some []))) [{ target:=.collected w.heap.size,args:=#[] }] w.heap.size (hr.alloc_free _) (Ext.alloc_free _ _ _ _ _) ⟨⟨w.heap.size,rfl,⟨hB,World.alloc_heap_new w _,fun n e y k1 k2 k3=>?_⟩,fun d' hd' z=>?_⟩,hm.ext (Ext.alloc_free h.nxt _ _ _ _)⟩ ?_
     .have:=(hr.ent n e y k1 k2).lt
      omega
     .have:=Marks.lt hm d' hd' _ z
      omega
     .have:=run_enterLoop_outer (P:=E.P) (w:=w) fnb a.tmps ps asg body
      rw [World.size_alloc]
      exact this
 | some n0 =>
   rw [hfr] at hR hro
   cases ro with
   | none=>exact hR.elim
   | some b0 =>
     obtain ⟨y,hy,hyb⟩:=hR
     subst hyb
     cases hl:getLp h n0 with
     | none=>simp only [roOk,hl,Bool.false_eq_true] at hro
     | some L0 =>
       obtain ⟨_,r0,hb0,_⟩:=getLp_R hr hl hy
       exact main w [] r0.defers hr (Ext.refl _ _ _ _) hm (run_enterLoop_inner hb0 fnb a.tmps ps asg body)
theorem ev_sound [LG] {E:Env} (hE:EnvOk E) (hG:LGOk E):∀ n,RunOk E (ev E n)
 | 0=>fun c f N T h x T' h' hx=>by cases hx
 | n+1=>fun c f N T h x T' h' hx hc ro B θ a w Q hR hB hm ht hN hr hQ=>by
   have ih:=ev_sound hE hG n
   have hcall:∀ h,CallAt E.P (callA E (ev E n)) h.nxt h:=fun h=>call_sound hE hG ih h
   cases c with
   | skip =>
     cases hx
     exact wpIn_skip (hQ θ a w (Ext.refl _ _ _ _) hr ht rfl hm)
   | exit id =>
     cases hx
     exact wpIn_exit (hQ θ a w (Ext.refl _ _ _ _) hr ht rfl hm)
   | ret =>
     cases hx
     exact wpIn_ret (hQ θ a w (Ext.refl _ _ _ _) hr ht rfl hm)
   | seq c1 c2 =>
     simp only [codeOk,Bool.and_eq_true] at hc
     simp only [ev] at hx
     refine wpIn_seq ?_
     split at hx
     .rename_i T1 h1 h2
      refine (ih c1 f N T h _ _ _ h2 hc.1 ro B θ a w _ hR hB hm ht hN hr fun θ1 a1 w1 e1 r1 t1 s1 m1=>?_).wp
      refine (ih c2 f N T1 h1 _ _ _ hx hc.2 ro B θ1 a1 w1 _ (hR.mono e1.keep) (Nat.le_trans hB e1.size) m1 t1 (by rw [s1]; exact hN) r1 fun θ2 a2 w2 e2 r2 t2 s2 m2=>?_).wp
      exact hQ θ2 a2 w2 (e1.trans e2 (fun n hn _ e=>by have:=e1.nxt; omega)) r2 t2 (by rw [s2,s1]) m2
     .rename_i hne
      refine (ih c1 f N T h _ _ _ hx hc.1 ro B θ a w _ hR hB hm ht hN hr fun θ1 a1 w1 e1 r1 t1 s1 m1=>?_).wp
      have hx1:x≠.normal:=fun e=>hne T' h' (by rw [hx,e])
      cases x<;>first | exact absurd rfl hx1 | exact hQ θ1 a1 w1 e1 r1 t1 s1 m1
   | cond c c1 c2 =>
     simp only [codeOk,Bool.and_eq_true] at hc
     simp only [ev] at hx
     split at hx
     .rename_i hv
      exact wpIn_cond_true (opv_W ht hv) (ih c1 f N T h _ _ _ hx hc.1 ro B θ a w _ hR hB hm ht hN hr hQ).wp
     .rename_i hv
      exact wpIn_cond_false (opv_W ht hv) (ih c2 f N T h _ _ _ hx hc.2 ro B θ a w _ hR hB hm ht hN hr hQ).wp
     .cases hx
   | block id c =>
     simp only [codeOk] at hc
     simp only [ev] at hx
     refine wpIn_block ?_
     split at hx
     .rename_i i T1 h1 h2
      refine (ih c f N T h _ _ _ h2 hc ro B θ a w _ hR hB hm ht hN hr fun θ1 a1 w1 e1 r1 t1 s1 m1=>?_).wp
      simp only [Exit.inBlock]
      cases hb:Nat.beq i id<;>simp only [hb,cond_true,cond_false,Option.some.injEq,Prod.mk.injEq] at hx
      .have hne:i≠id:=fun e=>by rw [e] at hb; simp at hb
       rw [if_neg hne]
       obtain ⟨rfl,rfl,rfl⟩:=hx
       exact hQ θ1 a1 w1 e1 r1 t1 s1 m1
      .rw [if_pos (Nat.eq_of_beq_eq_true hb)]
       obtain ⟨rfl,rfl,rfl⟩:=hx
       exact hQ θ1 a1 w1 e1 r1 t1 s1 m1
     .rename_i hne
      refine (ih c f N T h _ _ _ hx hc ro B θ a w _ hR hB hm ht hN hr fun θ1 a1 w1 e1 r1 t1 s1 m1=>?_).wp
      cases x<;>first | exact hQ θ1 a1 w1 e1 r1 t1 s1 m1 | exact absurd hx (hne _ T' h')
   | loop c =>
     simp only [codeOk] at hc
     simp only [ev] at hx
     show InLoop ro E.P c Q a w
     refine InLoop.once ?_
     split at hx
     .rename_i T1 h1 h2
      refine (ih c f N T h _ _ _ h2 hc ro B θ a w _ hR hB hm ht hN hr fun θ1 a1 w1 e1 r1 t1 s1 m1=>?_).wp
      have:=ih (.loop c) f N T1 h1 _ _ _ hx (by simpa [codeOk] using hc) ro B θ1 a1 w1 Q (hR.mono e1.keep) (Nat.le_trans hB e1.size) m1 t1 (by rw [s1]; exact hN) r1 fun θ2 a2 w2 e2 r2 t2 s2 m2=>hQ θ2 a2 w2 (e1.trans e2 (fun n hn _ e=>by have:=e1.nxt; omega)) r2 t2 (by rw [s2,s1]) m2
      exact this
     .rename_i hne
      refine (ih c f N T h _ _ _ hx hc ro B θ a w _ hR hB hm ht hN hr fun θ1 a1 w1 e1 r1 t1 s1 m1=>?_).wp
      have hx1:x≠.normal:=fun e=>hne T' h' (by rw [hx,e])
      cases x<;>first | exact absurd rfl hx1 | exact hQ θ1 a1 w1 e1 r1 t1 s1 m1
   | region id ops draw =>
     simp only [codeOk,Bool.and_eq_true] at hc
     simp only [ev] at hx
     cases draw with
     | true =>
       simp only [cond_true] at hx hc
       split at hx
       .cases hx
       .rename_i pf hpf
        split at hx
        .cases hx
        .rename_i st hst
         split at hx
         .rename_i T1 h1 h2
          cases hx
          have hpl:=hc.2
          rw [hpf] at hpl
          simp only at hpl
          rw [hst] at hpl
          exact draw_sound hE.tt hE.mixed hcall h2 hpl hc.1 ht hN hr fun θ' a' w' e1 r1 t1 s1 d1=>hQ θ' a' w' e1 r1 t1 s1 (by rw [d1]; exact hm.ext e1)
         .cases hx
     | false =>
       simp only [cond_false] at hx
       split at hx
       .rename_i T1 h1 h2
        cases hx
        exact region_sound hE.tt hcall h2 hc.1 ht hN hr fun θ' a' w' e1 r1 t1 s1 d1=>hQ θ' a' w' e1 r1 t1 s1 (by rw [d1]; exact hm.ext e1)
       .cases hx
   | rangeFunc g ps asg body =>
     simp only [ev] at hx
     cases hro:roOk h f.ro<;>simp only [hro,cond_true,cond_false,reduceCtorEq] at hx
     split at hx
     .rename_i it first cap fn hv hfn
      cases hi:(Nat.blt it unkU&&(tget E.ff it).isSome)<;>simp only [hi,cond_true,cond_false,reduceCtorEq] at hx
      simp only [Bool.and_eq_true] at hi
      split at hx
      .rename_i v h1 hcl
       have hT:T'=T:=by
        unfold endA at hx
        obtain ⟨Le,_,q⟩:=ob_some hx
        cases hb:Nat.beq Le.st 1<;>simp only [hb,cond_true,cond_false,reduceCtorEq] at q
        split at q<;>cases q<;>rfl
       subst hT
       exact (range_sound hE hG hcall hc hro hv hfn (blt_lt hi.1) hi.2 hcl hx hR hB hm ht hN hr hQ).2
      .cases hx
     .cases hx
   | _=>cases hx
abbrev lgOf (E:Env):LG:=⟨fun fn N ps asg body=>codeOk E fn N asg=true/\codeOk E fn N body=true/\ps.all (fun t=>Nat.blt t N)=true⟩
theorem lgOf_ok (E:Env) : @LGOk (lgOf E) E:=fun _=>Iff.rfl
def mkTab {α:Type} (l:List (Nat × α)):BT (Option α):=l.foldl (fun m p=>tset m p.1 (some p.2)) .nil
theorem fold_get {α:Type}:∀ (l:List (Nat × α)) (m:BT (Option α)) (t:Nat) (x:α),tget (l.foldl (fun m p=>tset m p.1 (some p.2)) m) t=some x->(t,x)∈l\/tget m t=some x
 | [],m,t,x,h=>.inr h
 | p :: l,m,t,x,h=>by
   rcases fold_get l _ t x h with h1 | h1
   .exact .inl (by simp [h1])
   .rw [tget_tset] at h1
    split at h1
    .rename_i e
     cases h1
     subst e
     exact .inl (by simp)
    .exact .inr h1
theorem mkTab_mem {α:Type} {l:List (Nat × α)} {t:Nat} {x:α} (h:tget (mkTab l) t=some x):(t,x)∈l :=
 (fold_get l .nil t x h).resolve_right (fun q=>by cases q)
def fnsOf (P:Program):List Nat->List (Nat × Func)
 | []=>[]
 | i :: l=>match P.funcs[i]? with
   | some fn=>(i,fn) :: fnsOf P l
   | none=>fnsOf P l
theorem fnsOf_mem {P:Program}:∀ {l:List Nat} {g:Nat} {fn:Func},(g,fn)∈fnsOf P l->P.funcs[g]? = some fn
 | [],g,fn,h=>by cases h
 | i :: l,g,fn,h=>by
   simp only [fnsOf] at h
   split at h
   .rename_i f hf
    rcases List.mem_cons.1 h with e | h
    .cases e; exact hf
    .exact fnsOf_mem h
   .exact fnsOf_mem h
def envOf (P:Program) (ty:List (Nat × TI)) (fs:List Nat) (pl:List (Nat × List (Nat × List Stage))) (xt:List (Nat × Nat)):Env :=
 { P:=P,tt:=mkTab ty,ff:=mkTab (fnsOf P fs),pp:=mkTab (pl.map fun p=>(p.1,mkTab p.2)),xx:=mkTab xt }
def tysOk (P:Program) (ty:List (Nat × TI)):Prop:=ty.map (fun p=>tiOf P p.1)=ty.map fun p=>some p.2
def fnOk (E : Env) (p : Nat × Func) : Bool := !(p.2.name == "runtime.NumGoroutine") && (match p.2.body with
 | some c=>codeOk E p.1 p.2.ntmps c
 | none=>false)
theorem env_okB {P:Program} {ty:List (Nat × TI)} {fs:List Nat} {pl:List (Nat × List (Nat × List Stage))} {xt:List (Nat × Nat)} (h1:tysOk P ty) (hm:P.follows .mixedOrders=true) (h2:(fnsOf P fs).all (fnOk (envOf P ty fs pl xt))=true)
 (h3:∀ g,(g,1)∈xt->∀ a b w,(callFunc g #[.string a,.string b]).run P w = .ok (.value (.int .i64 (Extern.BytealgCompare.cmp a b))) w)
 (h4:∀ g,(g,3)∈xt->∀ s c w,(callFunc g #[.string s,.int .u8 c]).run P w = .ok (.value (.int .i64 (idxB s c))) w)
 (h6:∀ g,(g,4)∈xt->Splices P g)
 (h5:∀ g,(g,2)∈xt->∀ w,(callFunc g #[]).run P w = .ok (.enter g #[]) w/\Calls P g #[] w fun e w'=>e = .returned (.bool true)/\Below w.heap.size w w')
 {T0 e0:Nat} (hb:xt.all (fun p=>Nat.blt p.1 4294967296||(Nat.beq p.1 (bT T0)&&Nat.beq p.2 (e0+1000)))=true) (h7:∀ g,(g,5)∈xt->Writes P g T0 e0) (h8:∀ g,(g,6)∈xt->Says P g T0 e0) (h9:∀ g,(g,7)∈xt->Clones P g):EnvOk (envOf P ty fs pl xt):=by
 have hB:∀ T e,bldK (envOf P ty fs pl xt) T=some e->T=T0/\e=e0:=by
  intro T e hk
  unfold bldK at hk
  split at hk
  .rename_i k hk2
   have hmem:(bT T,k)∈xt:=mkTab_mem hk2
   cases hq:Nat.ble 1000 k<;>simp only [hq,cond_true,cond_false,reduceCtorEq,Option.some.injEq] at hk
   rw [List.all_eq_true] at hb
   have:=hb _ hmem
   simp only [Bool.or_eq_true,Bool.and_eq_true] at this
   rcases this with z | ⟨z1,z2⟩
   .have:=blt_lt z
    unfold bT at this
    omega
   .have z1:=Nat.eq_of_beq_eq_true z1
    have z2:=Nat.eq_of_beq_eq_true z2
    unfold bT at z1
    have hk:k-1000=e:=hk
    exact ⟨by omega,by omega⟩
  .cases hk
 refine ⟨fun t ti h=>?_,hm,fun g fn h=>?_,fun g h=>h3 g (mkTab_mem h),fun g h=>h4 g (mkTab_mem h),fun g h=>h6 g (mkTab_mem h),fun g h T e q=>(by obtain ⟨rfl,rfl⟩:=hB T e q; exact h7 g (mkTab_mem h)),fun g h T e q=>(by obtain ⟨rfl,rfl⟩:=hB T e q; exact h8 g (mkTab_mem h)),fun g h=>h9 g (mkTab_mem h),fun g h=>h5 g (mkTab_mem h)⟩
 .have hmem:=mkTab_mem h
  exact List.map_inj_left.1 h1 _ hmem
 .have hmem:=mkTab_mem h
  rw [List.all_eq_true] at h2
  have h6:=h2 _ hmem
  unfold fnOk at h6
  simp only [Bool.and_eq_true,Bool.not_eq_true'] at h6
  refine ⟨fnsOf_mem hmem,h6.1,?_⟩
  cases hb:fn.body with
  | none=>rw [hb] at h6; cases h6.2
  | some c=>rw [hb] at h6; exact ⟨c,rfl,h6.2⟩
theorem env_ok4 {P:Program} {ty:List (Nat × TI)} {fs:List Nat} {pl:List (Nat × List (Nat × List Stage))} {xt:List (Nat × Nat)} (h1:tysOk P ty) (hm:P.follows .mixedOrders=true) (h2:(fnsOf P fs).all (fnOk (envOf P ty fs pl xt))=true)
 (h3:∀ g,(g,1)∈xt->∀ a b w,(callFunc g #[.string a,.string b]).run P w = .ok (.value (.int .i64 (Extern.BytealgCompare.cmp a b))) w)
 (h4:∀ g,(g,3)∈xt->∀ s c w,(callFunc g #[.string s,.int .u8 c]).run P w = .ok (.value (.int .i64 (idxB s c))) w)
 (h6:∀ g,(g,4)∈xt->Splices P g)
 (h5:∀ g,(g,2)∈xt->∀ w,(callFunc g #[]).run P w = .ok (.enter g #[]) w/\Calls P g #[] w fun e w'=>e = .returned (.bool true)/\Below w.heap.size w w')
 (h6':xt.all (fun p=>Nat.blt p.1 4294967296&&!(Nat.beq p.2 5)&&!(Nat.beq p.2 6)&&!(Nat.beq p.2 7))=true:=by rfl):EnvOk (envOf P ty fs pl xt):=by
 rw [List.all_eq_true] at h6'
 refine env_okB (T0:=0) (e0:=0) h1 hm h2 h3 h4 h6 h5 ?_ (fun g h=>?_) (fun g h=>?_) fun g h=>?_
 .rw [List.all_eq_true]
  intro p hp
  have:=h6' p hp
  simp only [Bool.and_eq_true] at this
  rw [this.1.1.1]; rfl
 .have:=h6' _ h; simp at this
 .have:=h6' _ h; simp at this
 .have:=h6' _ h; simp at this
theorem env_ok {P:Program} {ty:List (Nat × TI)} {fs:List Nat} {pl:List (Nat × List (Nat × List Stage))} {xt:List (Nat × Nat)} (h1:tysOk P ty) (hm:P.follows .mixedOrders=true) (h2:(fnsOf P fs).all (fnOk (envOf P ty fs pl xt))=true)
 (h3:∀ g,(g,1)∈xt->∀ a b w,(callFunc g #[.string a,.string b]).run P w = .ok (.value (.int .i64 (Extern.BytealgCompare.cmp a b))) w)
 (h4:∀ g,(g,3)∈xt->∀ s c w,(callFunc g #[.string s,.int .u8 c]).run P w = .ok (.value (.int .i64 (idxB s c))) w)
 (h5:∀ g,(g,2)∈xt->∀ w,(callFunc g #[]).run P w = .ok (.enter g #[]) w/\Calls P g #[] w fun e w'=>e = .returned (.bool true)/\Below w.heap.size w w') 
 (h6:xt.all (fun p=>!(Nat.beq p.2 4))=true:=by rfl) (h6':xt.all (fun p=>Nat.blt p.1 4294967296&&!(Nat.beq p.2 5)&&!(Nat.beq p.2 6)&&!(Nat.beq p.2 7))=true:=by rfl):EnvOk (envOf P ty fs pl xt):=env_ok4 h1 hm h2 h3 h4 (fun g h=>by
 rw [List.all_eq_true] at h6
 cases h6 _ h) h5 h6'
end Go.Ev
