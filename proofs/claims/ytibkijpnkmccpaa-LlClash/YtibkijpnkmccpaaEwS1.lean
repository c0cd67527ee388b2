import Derived.Test.YtibkijpnkmccpaaEvFast4
import Derived.Test.YtibkijpnkmccpaaEvBld
set_option linter.unusedVariables false
set_option linter.unusedSimpArgs false
namespace Go.Ew
open Go.Ev Go.Deep
def den (ν:Nat->Nat):SV->Value
 | .v x=>x
 | .q b=>.bool b
 | .r t off=>.pointer (some ⟨ν t,off,none⟩)
theorem den_val {ν:Nat->Nat} {s:SV} {x:Value} (h:s.val=some x):den ν s=x:=by
 cases s<;>simp only [SV.val,Option.some.injEq,reduceCtorEq] at h<;>exact h
theorem den_toSV (ν:Nat->Nat) (v:Value):den ν (toSV v)=v:=by cases v<;>rfl
structure Rl (ν:Nat->Nat) (T:TS) (B:BX) (H:KH) (M:Tm) (h:Hp):Prop where
 tmp:∀ t s,tget T t=some s->tget M t=some (den ν s)
 box:∀ b cs,tget B b=some cs->∃ e,tget h.m (ν b)=some e/\wrB e=true/\∀ i,tget e.cells i=cs[i]?
 lt:∀ b cs,tget B b=some cs->ν b<h.nxt
 apart:∀ b cs,tget B b=some cs->H (ν b)=none
 inj:∀ b b' cs cs',tget B b=some cs->tget B b'=some cs'->ν b=ν b'->b=b'
 know:∀ k e,H k=some e->tget h.m k=some e
 wf:∀ k,h.nxt<=k->tget h.m k=none
structure Fr (H0:KH) (h0:Hp) (ν:Nat->Nat) (B:BX) (H:KH) (h:Hp):Prop where
 nxt:h0.nxt<=h.nxt
 keep:∀ k,k<h0.nxt->H0 k=none->tget h.m k=tget h0.m k
 new:∀ k,H k≠none->H0 k≠none\/h0.nxt<=k
 box:∀ b cs,tget B b=some cs->h0.nxt<=ν b
section
variable {ν : Nat -> Nat} {T : TS} {B : BX} {H : KH} {M : Tm} {h : Hp}
theorem Rl.op (R:Rl ν T B H M h) {x:Operand} {s:SV} (hx:opS T x=some s):opv M x=some (den ν s):=by
 cases x with
 | tmp t=>exact R.tmp t s hx
 | const c =>
   simp only [opS] at hx
   simp only [opv]
   cases hp:isPlain c<;>rw [hp] at hx<;>cases hx
   rfl
 | func f=>cases hx; rfl
 | «global» g=>cases hx
theorem Rl.opW (R:Rl ν T B H M h) {x:Operand} {v:Value} (hx:opW T x=some v):opv M x=some v:=by
 unfold Ew.opW at hx
 split at hx
 .rename_i s hs
  rw [R.op hs,den_val hx]
 .cases hx
theorem Rl.opWs (R:Rl ν T B H M h):∀ {l:List Operand} {vs:List Value},opWs T l=some vs->opvs (opv M) l=some vs
 | [],vs,hx=>by cases hx; rfl
 | x :: l,vs,hx=>by
   simp only [Ew.opWs] at hx
   split at hx
   .cases hx
   .rename_i v hv
    split at hx
    .cases hx
    .rename_i r hr
     cases hx
     simp only [opvs,R.opW hv,R.opWs hr]
theorem Rl.opWo (R:Rl ν T B H M h) {x:Option Operand} {v:Option Value} (hx:opWo T x=some v):optv (opv M) x=some v:=by
 cases x with
 | none=>cases hx; rfl
 | some x =>
   simp only [Ew.opWo] at hx
   split at hx
   .rename_i u hu
    cases hx
    simp only [optv,R.opW hu]
   .cases hx
theorem Rl.parts (R:Rl ν T B H M h) {pl:Nat->Option (Nat × Nat)}:∀ {l:List (Nat × Operand)} {ps:List (Nat × Nat × Value)},partsS T pl l=some ps->partsA (opv M) pl l=some ps
 | [],ps,hx=>by cases hx; rfl
 | (i,x) :: l,ps,hx=>by
  simp only [partsS] at hx
  split at hx
  .rename_i off sz v r h1 h2 h3
   cases hx
   simp only [partsA,h1,R.opW h2,R.parts h3]
  .cases hx
def SubT (T1 T:TS):Prop:=∀ t s,tget T1 t=some s->∃ s',tget T t=some s'/\∀ ν,den ν s=den ν s'
def SubB (B1 B:BX):Prop:=∀ b cs,tget B1 b=some cs->tget B b=some cs
theorem Rl.sub (R:Rl ν T B H M h) {T1:TS} {B1:BX} (ht:SubT T1 T) (hb:SubB B1 B):Rl ν T1 B1 H M h where
 tmp t s q:=by
  obtain ⟨s',h1,h2⟩:=ht t s q
  rw [h2 ν]
  exact R.tmp t s' h1
 box b cs q:=R.box b cs (hb b cs q)
 lt b cs q:=R.lt b cs (hb b cs q)
 apart b cs q:=R.apart b cs (hb b cs q)
 inj b b' cs cs' q q':=R.inj b b' cs cs' (hb b cs q) (hb b' cs' q')
 know:=R.know
 wf:=R.wf
theorem Fr.sub {H0:KH} {h0:Hp} (F:Fr H0 h0 ν B H h) {B1:BX} (hb:SubB B1 B):Fr H0 h0 ν B1 H h :=
 ⟨F.nxt,F.keep,F.new,fun b cs q=>F.box b cs (hb b cs q)⟩
theorem Rl.put (R:Rl ν T B H M h) (dst:Option Tmp) (s:SV):Rl ν (putS T dst s) B H (tputD M dst (den ν s)) h:=by
 cases dst with
 | none=>exact R
 | some d =>
   refine ⟨fun t u q=>?_,R.box,R.lt,R.apart,R.inj,R.know,R.wf⟩
   simp only [putS,tget_tset] at q
   simp only [tputD,tget_tset]
   by_cases e:d=t
   .rw [if_pos e] at q ⊢
    cases q
    rfl
   .rw [if_neg e] at q ⊢
    exact R.tmp t u q
theorem Rl.told (R:Rl ν T B H M h) {d:Nat} {s s':SV} (hd:tget T d=some s) (he:den ν s=den ν s'):Rl ν (tset T d (some s')) B H M h:=by
 refine ⟨fun t u q=>?_,R.box,R.lt,R.apart,R.inj,R.know,R.wf⟩
 simp only [tget_tset] at q
 by_cases e:d=t
 .rw [if_pos e] at q
  cases q
  subst e
  rw [<- he]
  exact R.tmp d s hd
 .rw [if_neg e] at q
  exact R.tmp t u q
theorem purge_get (d:Nat):∀ (T:TS) (t:Nat) (s:SV),tget (purge d T) t=some s->tget T t=some s/\∀ o,s≠.r d o
 | .nil,t,s,h=>by cases h
 | .node a b x l r,t,s,h=>by
   cases t with
   | zero =>
     simp only [purge,tget] at h ⊢
     split at h
     .rename_i t' o
      cases hb:Nat.beq t' d<;>rw [hb] at h<;>cases h
      exact ⟨rfl,fun o' e=>by cases e; simp at hb⟩
     .rename_i hne
      refine ⟨h,fun o e=>?_⟩
      subst e
      exact hne d o h
   | succ m =>
     simp only [purge,tget] at h ⊢
     cases hb:Nat.beq (Nat.mod m 2) 0<;>rw [hb] at h<;>simp only [cond_true,cond_false] at h ⊢
     .exact purge_get d r _ s h
     .exact purge_get d l _ s h
theorem Rl.alloc (R:Rl ν T B H M h) {nm:Nat} {e:Ent} (hf:tget h.m nm=none) (hnb:∀ b cs,tget B b=some cs->ν b≠nm):Rl ν T B (H.new nm e) M (halloc h nm e):=by
 refine ⟨R.tmp,fun b cs q=>?_,fun b cs q=>?_,fun b cs q=>?_,R.inj,fun k e' q=>?_,fun k hk=>?_⟩
 .obtain ⟨e',h1,h2⟩:=R.box b cs q
  refine ⟨e',?_,h2⟩
  simp only [halloc,tget_tset]
  rw [if_neg (Ne.symm (hnb b cs q)),h1]
 .have:=R.lt b cs q
  simp only [halloc]; omega
 .simp only [KH.new]
  rw [if_neg (hnb b cs q)]
  exact R.apart b cs q
 .simp only [KH.new] at q
  simp only [halloc,tget_tset]
  by_cases hk:k=nm
  .rw [if_pos hk] at q
   rw [if_pos hk.symm,q]
  .rw [if_neg hk] at q
   rw [if_neg (Ne.symm hk)]
   exact R.know k e' q
 .simp only [halloc] at hk ⊢
  rw [tget_tset,if_neg (by omega)]
  exact R.wf k (by omega)
theorem Fr.alloc {H0:KH} {h0:Hp} (F:Fr H0 h0 ν B H h) {nm:Nat} {e:Ent} (hn:h0.nxt<=nm):Fr H0 h0 ν B (H.new nm e) (halloc h nm e):=by
 refine ⟨?_,fun k hk h1=>?_,fun k hk=>?_,F.box⟩
 .have:=F.nxt; simp only [halloc]; omega
 .simp only [halloc]
  rw [tget_tset,if_neg (by omega)]
  exact F.keep k hk h1
 .simp only [KH.new] at hk
  by_cases e:k=nm
  .exact .inr (by omega)
  .rw [if_neg e] at hk; exact F.new k hk
theorem Rl.newBox (R:Rl ν T B H M h) {nm d:Nat} {cs:List Value} (hf:tget h.m nm=none) (hHn:H nm=none) (hnb:∀ b cs,tget B b=some cs->ν b≠nm) :
 Rl (fun b=>if b=d then nm else ν b) (purge d T) (tset B d (some cs)) H M (halloc h nm (mkEnt cs 0)):=by
 refine ⟨fun t s q=>?_,fun b cs' q=>?_,fun b cs' q=>?_,fun b cs' q=>?_,fun b b' c1 c2 q q' e=>?_,fun k e' q=>?_,fun k hk=>?_⟩
 .obtain ⟨h1,h2⟩:=purge_get d T t s q
  rw [R.tmp t s h1]
  cases s with
  | v x=>rfl
  | q b=>rfl
  | r t' o =>
    simp only [den]
    rw [if_neg (fun e=>h2 o (by rw [e]))]
 .rw [tget_tset] at q
  by_cases e:d=b
  .rw [if_pos e] at q
   cases q
   refine ⟨mkEnt cs 0,?_,rfl,fun i=>?_⟩
   .simp only [if_pos e.symm,halloc,tget_tset,if_true]
   .simp only [mkEnt]; exact tget_wr_nil cs i
  .rw [if_neg e] at q
   obtain ⟨e',h1,h2⟩:=R.box b cs' q
   refine ⟨e',?_,h2⟩
   simp only [if_neg (Ne.symm e),halloc,tget_tset]
   rw [if_neg (Ne.symm (hnb b cs' q)),h1]
 .rw [tget_tset] at q
  by_cases e:d=b
  .simp only [if_pos e.symm,halloc]; omega
  .rw [if_neg e] at q
   have:=R.lt b cs' q
   simp only [if_neg (Ne.symm e),halloc]; omega
 .rw [tget_tset] at q
  by_cases e:d=b
  .simp only [if_pos e.symm]; exact hHn
  .rw [if_neg e] at q
   simp only [if_neg (Ne.symm e)]; exact R.apart b cs' q
 .rw [tget_tset] at q q'
  by_cases e1:d=b
  .by_cases e2:d=b'
   .omega
   .rw [if_neg e2] at q'
    simp only [if_pos e1.symm,if_neg (Ne.symm e2)] at e
    exact absurd e.symm (hnb b' c2 q')
  .rw [if_neg e1] at q
   by_cases e2:d=b'
   .simp only [if_neg (Ne.symm e1),if_pos e2.symm] at e
    exact absurd e (hnb b c1 q)
   .rw [if_neg e2] at q'
    simp only [if_neg (Ne.symm e1),if_neg (Ne.symm e2)] at e
    exact R.inj b b' c1 c2 q q' e
 .simp only [halloc,tget_tset]
  rw [if_neg (fun e=>by subst e; rw [hHn] at q; cases q)]
  exact R.know k e' q
 .simp only [halloc] at hk ⊢
  rw [tget_tset,if_neg (by omega)]
  exact R.wf k (by omega)
theorem Fr.newBox {H0:KH} {h0:Hp} (F:Fr H0 h0 ν B H h) {nm d:Nat} {cs:List Value} (hn:h0.nxt<=nm):Fr H0 h0 (fun b=>if b=d then nm else ν b) (tset B d (some cs)) H (halloc h nm (mkEnt cs 0)):=by
 refine ⟨?_,fun k hk h1=>?_,F.new,fun b cs' q=>?_⟩
 .have:=F.nxt; simp only [halloc]; omega
 .simp only [halloc]
  rw [tget_tset,if_neg (by omega)]
  exact F.keep k hk h1
 .rw [tget_tset] at q
  by_cases e:d=b
  .simp only [if_pos e.symm]; exact hn
  .rw [if_neg e] at q
   simp only [if_neg (Ne.symm e)]
   exact F.box b cs' q
theorem rd_some {e:BT (Option Value)}:∀ {n i:Nat} {vs:List Value},vs.length=n->(∀ j v,vs[j]? = some v->tget e (i+j)=some v)->rd e i n=some vs
 | 0,i,vs,hl,_=>by rw [List.eq_nil_of_length_eq_zero hl]; rfl
 | n+1,i,v :: vs,hl,hv=>by
   have h0:=hv 0 v (by simp)
   simp only [Nat.add_zero] at h0
   have h1:rd e (i+1) n=some vs:=rd_some (by simpa using hl) fun j u hu=>by
    have:=hv (j+1) u (by simpa using hu)
    rw [<- this]; congr 1; omega
   simp only [rd,h0,h1]
theorem Rl.rdBox (R:Rl ν T B H M h) {b:Nat} {cs:List Value} (hb:tget B b=some cs) {off n:Nat} (hl:off+n<=cs.length):hload h ⟨ν b,off,none⟩ n=some ((cs.drop off).take n):=by
 obtain ⟨e,h1,h2,h3⟩:=R.box b cs hb
 unfold hload
 simp only [h1]
 refine rd_some (by simp; omega) fun j v hv=>?_
 rw [h3,<- hv]
 have hj:j<n:=by
  rcases Nat.lt_or_ge j n with q | q
  .exact q
  .rw [List.getElem?_eq_none (by simp; omega)] at hv; cases hv
 rw [List.getElem?_take_of_lt hj,List.getElem?_drop]
theorem lput_get {α:Type}:∀ (cs:List α) (off:Nat) (vs:List α) (i:Nat),off+vs.length<=cs.length->(lput cs off vs)[i]? = if off<=i/\i<off+vs.length then vs[i-off]? else cs[i]?
 | cs,off,[],i,h=>by
   have:lput cs off []=cs:=by cases cs<;>cases off<;>rfl
   rw [this,if_neg (by simp)]
 | [],off,v :: vs,i,h=>by simp at h
 | c :: cs,0,v :: vs,i,h=>by
   simp only [lput]
   cases i with
   | zero=>simp
   | succ i =>
     simp only [List.getElem?_cons_succ]
     rw [lput_get cs 0 vs i (by simpa using h)]
     simp only [List.length_cons,Nat.zero_le,true_and,Nat.zero_add,Nat.sub_zero]
     by_cases e:i<vs.length
     .rw [if_pos e,if_pos (by omega)]; simp
     .rw [if_neg e,if_neg (by omega)]
 | c :: cs,off+1,v :: vs,i,h=>by
   simp only [lput]
   cases i with
   | zero=>simp
   | succ i =>
     simp only [List.getElem?_cons_succ]
     rw [lput_get cs off (v :: vs) i (by simp at h ⊢; omega)]
     by_cases e:off<=i/\i<off+(v :: vs).length
     .rw [if_pos e,if_pos (by omega)]
      congr 1; omega
     .rw [if_neg e,if_neg (by omega)]
theorem wrB_keep {e:Ent} {cs:BT (Option Value)} (h:wrB e=true):wrB ⟨cs,e.len,e.unk,none⟩=true:=by
 unfold wrB at h ⊢
 simp only [Bool.and_eq_true] at h ⊢
 exact ⟨h.1,rfl⟩
theorem Rl.wrBox (R:Rl ν T B H M h) {b:Nat} {cs vs:List Value} (hb:tget B b=some cs) {off:Nat} (hl:off+vs.length<=cs.length) :
 ∃ h',hstore h ⟨ν b,off,none⟩ vs=some h'/\h'.nxt=h.nxt/\(∀ k,k≠ν b->tget h'.m k=tget h.m k)/\Rl ν T (tset B b (some (lput cs off vs))) H M h':=by
 have hld:=R.rdBox hb hl
 obtain ⟨e,h1,h2,h3⟩:=R.box b cs hb
 unfold hload at hld
 simp only [h1] at hld
 refine ⟨⟨tset h.m (ν b) (some ⟨wr e.cells off vs,e.len,e.unk,none⟩),h.nxt⟩,?_,rfl,fun k hk=>tget_tset_ne _ _ _ _ (Ne.symm hk),?_⟩
 .unfold hstore
  simp only [h1,hld,h2,cond_true]
 .refine ⟨R.tmp,fun b' cs' q=>?_,fun b' cs' q=>?_,fun b' cs' q=>?_,fun b1 b2 c1 c2 q q' e=>?_,fun k e' q=>?_,fun k hk=>?_⟩
  .rw [tget_tset] at q
   by_cases e1:b=b'
   .rw [if_pos e1] at q
    cases q
    subst e1
    refine ⟨_,tget_tset_same _ _ _,wrB_keep h2,fun i=>?_⟩
    simp only
    rw [tget_wr,lput_get cs off vs i hl,h3]
   .rw [if_neg e1] at q
    obtain ⟨e',g1,g2⟩:=R.box b' cs' q
    refine ⟨e',?_,g2⟩
    rw [tget_tset_ne _ _ _ _ (fun e2=>e1 (R.inj b b' cs cs' hb q e2))]
    exact g1
  .rw [tget_tset] at q
   by_cases e1:b=b'
   .subst e1; exact R.lt b cs hb
   .rw [if_neg e1] at q; exact R.lt b' cs' q
  .rw [tget_tset] at q
   by_cases e1:b=b'
   .subst e1; exact R.apart b cs hb
   .rw [if_neg e1] at q; exact R.apart b' cs' q
  .rw [tget_tset] at q q'
   have f:∀ b1 c1,(if b=b1 then some (lput cs off vs) else tget B b1)=some c1->∃ c,tget B b1=some c:=by
    intro b1 c1 q
    by_cases e1:b=b1
    .subst e1; exact ⟨cs,hb⟩
    .rw [if_neg e1] at q; exact ⟨c1,q⟩
   obtain ⟨d1,q1⟩:=f b1 c1 q
   obtain ⟨d2,q2⟩:=f b2 c2 q'
   exact R.inj b1 b2 d1 d2 q1 q2 e
  .rw [tget_tset_ne _ _ _ _ (fun e1=>by subst e1; rw [R.apart b cs hb] at q; cases q)]
   exact R.know k e' q
  .have hlt:=R.lt b cs hb
   show tget (tset h.m (ν b) _) k=none
   have hk':h.nxt<=k:=hk
   rw [tget_tset_ne _ _ _ _ (by omega)]
   exact R.wf k hk'
theorem load_know (R:Rl ν T B H M h) {a:Addr} {n:Nat} {vs:List Value} (hl:H.load a n=some vs):hload h a n=some vs:=by
 unfold KH.load at hl
 unfold hload
 split at hl
 .rename_i e h1 h2
  simp only [h1,R.know _ _ h2]
  exact hl
 .cases hl
theorem ld_load {a:Addr} {vs:List Value} (hl:ld H a vs):H.load a vs.length=some vs:=by
 obtain ⟨h1,e,h2,h3⟩:=hl
 unfold KH.load
 rw [h1,h2]
 exact h3
theorem Rl.ldv (R:Rl ν T B H M h) {a:Addr} {vs:List Value} (hl:ld H a vs):hload h a vs.length=some vs:=load_know R (ld_load hl)
theorem Rl.store (R:Rl ν T B H M h) {a:Addr} {vs ws:List Value} (hl:H.load a vs.length=some ws) (hm:H.may a.block) :
 ∃ h',hstore h a vs=some h'/\h'.nxt=h.nxt/\(∀ k,k≠a.block->tget h'.m k=tget h.m k)/\H a.block≠none/\Rl ν T B (H.put a vs) M h':=by
 have hld:=load_know R hl
 unfold KH.load at hl
 split at hl
 .rename_i e h1 h2
  have he:=R.know _ _ h2
  have hlt:a.block<h.nxt:=by
   rcases Nat.lt_or_ge a.block h.nxt with q | q
   .exact q
   .rw [R.wf _ q] at he; cases he
  refine ⟨⟨tset h.m a.block (some ⟨wr e.cells a.off vs,e.len,e.unk,none⟩),h.nxt⟩,?_,rfl,fun k hk=>tget_tset_ne _ _ _ _ (Ne.symm hk),by rw [h2]; simp,?_⟩
  .obtain ⟨em,hm1,hm2⟩:=hm.ex
   rw [h2] at hm1
   cases hm1
   unfold hstore
   simp only [h1,he,hl,hm2,cond_true]
  .refine ⟨R.tmp,fun b cs q=>?_,R.lt,fun b cs q=>?_,R.inj,fun k e' q=>?_,fun k hk=>?_⟩
   .obtain ⟨e',g1,g2⟩:=R.box b cs q
    refine ⟨e',?_,g2⟩
    rw [tget_tset_ne _ _ _ _ (fun e1=>by have:=R.apart b cs q; rw [<- e1,h2] at this; cases this)]
    exact g1
   .simp only [KH.put]
    rw [if_neg (fun e1=>by have:=R.apart b cs q; rw [e1,h2] at this; cases this)]
    exact R.apart b cs q
   .simp only [KH.put] at q
    by_cases hk:k=a.block
    .rw [if_pos hk] at q
     subst hk
     rw [h2] at q
     simp only [Option.map_some,Option.some.injEq] at q
     rw [tget_tset_same,q]
    .rw [if_neg hk] at q
     rw [tget_tset_ne _ _ _ _ (Ne.symm hk)]
     exact R.know k e' q
   .have hk':h.nxt<=k:=hk
    show tget (tset h.m a.block _) k=none
    rw [tget_tset_ne _ _ _ _ (by omega)]
    exact R.wf k hk'
 .cases hl
theorem Fr.put {H0:KH} {h0 h':Hp} (F:Fr H0 h0 ν B H h) {a:Addr} {vs:List Value} (hn:h'.nxt=h.nxt) (hk:∀ k,k≠a.block->tget h'.m k=tget h.m k) (hH:H a.block≠none):Fr H0 h0 ν B (H.put a vs) h':=by
 refine ⟨by rw [hn]; exact F.nxt,fun k h1 h2=>?_,fun k q=>?_,F.box⟩
 .rw [hk k ?_]
  .exact F.keep k h1 h2
  .intro e
   subst e
   rcases F.new _ hH with q | q
   .exact q h2
   .omega
 .simp only [KH.put] at q
  by_cases e:k=a.block
  .subst e; exact F.new _ hH
  .rw [if_neg e] at q; exact F.new k q
theorem Fr.wrBox {H0:KH} {h0 h':Hp} (F:Fr H0 h0 ν B H h) {b:Nat} {cs cs':List Value} (hb:tget B b=some cs) (hn:h'.nxt=h.nxt) (hk:∀ k,k≠ν b->tget h'.m k=tget h.m k):Fr H0 h0 ν (tset B b (some cs')) H h':=by
 refine ⟨by rw [hn]; exact F.nxt,fun k h1 h2=>?_,F.new,fun b' c q=>?_⟩
 .rw [hk k (fun e=>by have:=F.box b cs hb; omega)]
  exact F.keep k h1 h2
 .rw [tget_tset] at q
  by_cases e:b=b'
  .subst e; exact F.box b cs hb
  .rw [if_neg e] at q; exact F.box b' c q
end
end Go.Ew
namespace Go.Ew
open Go.Ev Go.Deep
theorem exSh_some:∀ {s:Sh} {K:Value->Prop},exSh s K->∃ v,K v
 | .int k,K,⟨x,h⟩=>⟨_,h⟩
 | .bool,K,⟨x,h⟩=>⟨_,h⟩
 | .str,K,⟨x,h⟩=>⟨_,h⟩
 | .slice,K,⟨a,n,c,h⟩=>⟨_,h⟩
 | .ptr,K,⟨b,o,h⟩=>⟨_,h⟩
 | .fn,K,⟨g,h⟩=>⟨_,h⟩
 | .fix v,K,h=>⟨v,h⟩
 | .fnk,K,⟨g,k,h⟩=>⟨_,h⟩
 | .fnf,K,⟨g,k,h⟩=>⟨_,h⟩
 | .yld,K,⟨l,h⟩=>⟨_,h⟩
 | .map,K,⟨l,h⟩=>⟨_,h⟩
theorem exShs1_some:∀ {zs:List Value} {K:List Value->Prop},exShs1 zs K->∃ vs,vs.length=zs.length/\K vs
 | [],K,h=>⟨[],rfl,h⟩
 | z :: l,K,h=>by
   obtain ⟨v,h1⟩:=exSh_some (K:=fun v=>exShs1 l fun vs=>K (v :: vs)) h
   obtain ⟨vs,h2,h3⟩:=exShs1_some h1
   exact ⟨v :: vs,by simp [h2],h3⟩
theorem runB_le:∀ l:List Value,runB l<=l.length
 | []=>Nat.le_refl _
 | z :: l=>by
   have:=runB_le l
   cases z<;>simp only [runB,List.length_cons]<;>omega
theorem runI_le (k:IntKind):∀ l:List Value,runI k l<=l.length
 | []=>Nat.le_refl _
 | z :: l=>by
   have:=runI_le k l
   cases z<;>simp only [runI,List.length_cons]<;>try omega
   rename_i k' x
   cases kindB k k'<;>simp only [cond_true,cond_false]<;>omega
theorem boolsR_len (n:Nat) (f:Nat->Bool):(boolsR n f).length=n:=by simp [boolsR]
theorem intsR_len (k:IntKind) (n:Nat) (f:Nat->Int):(intsR k n f).length=n:=by simp [intsR]
theorem exShsF_some:∀ {n:Nat} {zs:List Value} {K:List Value->Prop},exShsF n zs K->∃ vs,vs.length=zs.length/\K vs
 | 0,zs,K,h=>exShs1_some (by unfold exShsF at h; exact h)
 | n+1,[],K,h=>⟨[],rfl,h⟩
 | n+1,z :: l,K,h=>by
   have one:(exSh (shOf z) fun v=>exShsF n l fun vs=>K (v :: vs))->∃ vs,vs.length=(z :: l).length/\K vs:=fun h=>by
    obtain ⟨v,h1⟩:=exSh_some (K:=fun v=>exShsF n l fun vs=>K (v :: vs)) h
    obtain ⟨vs,h2,h3⟩:=exShsF_some h1
    exact ⟨v :: vs,by simp [h2],h3⟩
   unfold exShsF at h
   split at h
   .rename_i b
    cases hq:Nat.ble 64 (runB (.bool b :: l))<;>rw [hq] at h<;>simp only [cond_true,cond_false] at h
    .exact one h
    .obtain ⟨f,h⟩:=h
     obtain ⟨vs,h2,h3⟩:=exShsF_some h
     have:=runB_le (.bool b :: l)
     exact ⟨_,by rw [List.length_append,boolsR_len,h2,List.length_drop]; omega,h3⟩
   .rename_i k x
    cases hq:Nat.ble 64 (runI k (.int k x :: l))<;>rw [hq] at h<;>simp only [cond_true,cond_false] at h
    .exact one h
    .obtain ⟨f,h⟩:=h
     obtain ⟨vs,h2,h3⟩:=exShsF_some h
     have:=runI_le k (.int k x :: l)
     exact ⟨_,by rw [List.length_append,intsR_len,h2,List.length_drop]; omega,h3⟩
   .exact one h
theorem exShs_some {zs:List Value} {K:List Value->Prop} (h:exShs zs K):∃ vs,vs.length=zs.length/\K vs:=exShsF_some h
theorem wRes_go {W:WE} {v:Value}:∀ {ts:List Nat} {acc:List Value} {K:SV->Prop},wRes.go W v ts acc K->∃ s,K s/\∀ ν,den ν s=v
 | [],acc,K,h=>⟨_,h.2,fun _=>h.1.symm⟩
 | t :: l,acc,K,h=>by
   simp only [wRes.go] at h
   split at h
   .exact h.elim
   .rename_i ti hti
    cases ha:ti.agg<;>rw [ha] at h<;>simp only [cond_true,cond_false] at h
    .split at h
     .obtain ⟨u,h1⟩:=exSh_some h
      exact wRes_go h1
     .exact h.elim
    .obtain ⟨vs,_,h1⟩:=exShs_some h
     exact wRes_go h1
theorem wRes_some {W:WE} {t:TypeId} {v:Value} {K:SV->Prop} (h:wRes W t v K):∃ s,K s/\∀ ν,den ν s=v:=by
 unfold wRes at h
 split at h
 .exact ⟨_,h.2,fun _=>h.1.symm⟩
 .exact wRes_go h
 .split at h
  .exact h.elim
  .rename_i ti hti
   cases ha:ti.agg<;>rw [ha] at h<;>simp only [cond_true,cond_false] at h
   .split at h
    .obtain ⟨u,h1,h2⟩:=exSh_some h
     exact ⟨_,h2,fun ν=>by rw [den_toSV,h1]⟩
    .exact h.elim
   .obtain ⟨vs,_,h1,h2⟩:=exShs_some h
    exact ⟨_,h2,fun ν=>h1.symm⟩
section
variable {ν : Nat -> Nat} {T : TS} {B : BX} {H H0 : KH} {M : Tm} {h h0 : Hp}
theorem Rl.called (R:Rl ν T B H M h) {h':Hp} {H':KH} (wf:∀ k,h'.nxt<=k->tget h'.m k=none) (know:∀ k e,H' k=some e->tget h'.m k=some e)
 (nxt:h.nxt<=h'.nxt) (keep:∀ k,k<h.nxt->H k=none->tget h'.m k=tget h.m k) (new:∀ k,H' k≠none->H k≠none\/h.nxt<=k):Rl ν T B H' M h' where
 tmp:=R.tmp
 box b cs q:=by
  obtain ⟨e,h1,h2⟩:=R.box b cs q
  exact ⟨e,by rw [keep _ (R.lt b cs q) (R.apart b cs q)]; exact h1,h2⟩
 lt b cs q:=Nat.lt_of_lt_of_le (R.lt b cs q) nxt
 apart b cs q:=by
  cases hk:H' (ν b) with
  | none=>rfl
  | some e =>
    rcases new (ν b) (by rw [hk]; simp) with k | k
    .exact absurd (R.apart b cs q) k
    .have:=R.lt b cs q; omega
 inj:=R.inj
 know:=know
 wf:=wf
theorem Fr.called (F:Fr H0 h0 ν B H h) {h':Hp} {H':KH} (nxt:h.nxt<=h'.nxt) (keep:∀ k,k<h.nxt->H k=none->tget h'.m k=tget h.m k) (new:∀ k,H' k≠none->H k≠none\/h.nxt<=k):Fr H0 h0 ν B H' h' where
 nxt:=Nat.le_trans F.nxt nxt
 keep k h1 h2:=by
  have hk:H k=none:=by
   cases hh:H k with
   | none=>rfl
   | some e =>
     rcases F.new k (by rw [hh]; simp) with q | q
     .exact absurd h2 q
     .omega
  rw [keep k (Nat.lt_of_lt_of_le h1 F.nxt) hk]
  exact F.keep k h1 h2
 new k q:=by
  rcases new k q with r | r
  .exact F.new k r
  .exact .inr (Nat.le_trans F.nxt r)
 box:=F.box
theorem Rl.del (R:Rl ν T B H M h) (k:Nat):Rl ν T B (H.del k) M h:=by
 refine ⟨R.tmp,R.box,R.lt,fun b cs q=>?_,R.inj,fun j e q=>?_,R.wf⟩
 .simp only [KH.del]; split
  .rfl
  .exact R.apart b cs q
 .simp only [KH.del] at q
  split at q
  .cases q
  .exact R.know j e q
theorem old_know (R:Rl ν T B H M h) {sz n:Nat} {a:OA} {cs:List Value} (hl:kold H sz a n=some cs):oldCells h sz a n=some cs:=by
 cases a with
 | none=>exact hl
 | some a =>
   unfold kold at hl
   unfold oldCells
   cases hs:a.spot with
   | none=>simp only [hs] at hl ⊢; exact load_know R hl
   | some s=>simp only [hs] at hl ⊢; exact hl
theorem new_know (R:Rl ν T B H M h) {ti:TI} {x:Value} {p:Nat × List Value} (hl:knew H ti x=some p):newCells h ti x=some p:=by
 unfold knew at hl
 unfold newCells
 split at hl
 .exact hl
 .obtain ⟨cs,h1,h2⟩:=ob_some hl
  simp only [old_know R h1,ob]
  exact h2
 .exact hl
 .cases hl
structure Xt (ν:Nat->Nat) (B:BX) (H:KH) (h:Hp) (nm:Nat) (H':KH) (h':Hp):Prop where
 up:h.nxt<=h'.nxt
 newk:∀ k,H' k≠none->H k≠none\/k=nm\/h.nxt<=k
 keepk:∀ k,k<h.nxt->H k=none->k≠nm->(∀ b cs,tget B b=some cs->ν b≠k)->tget h'.m k=tget h.m k
theorem Xt.refl (nm:Nat):Xt ν B H h nm H h:=⟨Nat.le_refl _,fun _ q=>.inl q,fun _ _ _ _ _=>rfl⟩
theorem Xt.put {nm:Nat} {h':Hp} {a:Addr} {vs:List Value} (hn:h'.nxt=h.nxt) (hk:∀ k,k≠a.block->tget h'.m k=tget h.m k) (hH:H a.block≠none):Xt ν B H h nm (H.put a vs) h':=by
 refine ⟨by omega,fun k q=>?_,fun k _ h1 _ _=>hk k (fun e=>by subst e; exact hH h1)⟩
 simp only [KH.put] at q
 by_cases e:k=a.block
 .subst e; exact .inl hH
 .rw [if_neg e] at q; exact .inl q
theorem Xt.alloc {nm:Nat} {e:Ent}:Xt ν B H h nm (H.new nm e) (halloc h nm e):=by
 refine ⟨by simp only [halloc]; omega,fun k q=>?_,fun k _ _ h2 _=>?_⟩
 .simp only [KH.new] at q
  by_cases e1:k=nm
  .exact .inr (.inl e1)
  .rw [if_neg e1] at q; exact .inl q
 .simp only [halloc]
  rw [tget_tset_ne _ _ _ _ (Ne.symm h2)]
theorem store_k (R:Rl ν T B H M h) (F:Fr H0 h0 ν B H h) (nm:Nat) {a:Addr} {vs:List Value} {H':KH} (hs:kstore H a vs=some H'):∃ h',hstore h a vs=some h'/\Rl ν T B H' M h'/\Fr H0 h0 ν B H' h'/\Xt ν B H h nm H' h':=by
 unfold kstore at hs
 split at hs
 .rename_i e q1 q2
  cases hw0:wrB e<;>simp only [hw0,cond_true,cond_false,reduceCtorEq] at hs
  split at hs
  .rename_i ws hw
   cases hs
   obtain ⟨h',g1,g2,g3,g4,g5⟩:=R.store (a:=a) (vs:=vs) (ws:=ws) (by unfold KH.load; rw [q1,q2]; exact hw) ⟨⟨e,q2,hw0⟩⟩
   exact ⟨h',g1,g5,F.put g2 g3 g4,Xt.put g2 g3 g4⟩
  .cases hs
 .cases hs
theorem append_k (R:Rl ν T B H M h) (F:Fr H0 h0 ν B H h) {nm:Nat} {ti:TI} {a:OA} {len cap n:Nat} {new:List Value} {v:Value} {H':KH}
 (hf:tget h.m nm=none) (hnb:∀ b cs,tget B b=some cs->ν b≠nm) (h0n:h0.nxt<=nm) (hs:kappend H nm ti a len cap n new=some (v,H')) :
 ∃ h',xappend h nm ti a len cap n new=some (v,h')/\Rl ν T B H' M h'/\Fr H0 h0 ν B H' h'/\Xt ν B H h nm H' h':=by
 simp only [kappend] at hs
 simp only [xappend]
 cases hb:(Nat.ble (len+n) 1000000&&Nat.ble ti.bytes 1000000&&Nat.ble 1 ti.size)<;>simp only [hb,cond_true,cond_false,reduceCtorEq] at hs ⊢
 cases hlt:Nat.blt cap unkU<;>simp only [hlt,cond_true,cond_false] at hs ⊢
 .cases a with
  | none=>cases hs
  | some b =>
    simp only at hs ⊢
    split at hs
    .cases hs
    .rename_i e he
     have hk:=R.know _ _ he
     simp only [hk]
     cases hq:(Nat.beq e.unk ti.size&&Nat.beq b.off ((cap-unkU)*ti.size)&&b.spot.isNone&&wrB e)<;>simp only [hq,cond_true,cond_false,reduceCtorEq] at hs ⊢
     cases hin:Nat.ble (b.off+(len+n)*ti.size) e.len<;>simp only [hin,cond_true,cond_false] at hs ⊢
     .obtain ⟨old,k1,k2⟩:=ob_some hs
      cases k2
      simp only [k1,ob]
      have hbne:b.block≠nm:=fun e1=>by rw [e1,hf] at hk; cases hk
      have R1:Rl ν T B (H.del b.block) M ⟨tset h.m b.block none,h.nxt⟩:=by
       have R0:=R.del b.block
       refine ⟨R0.tmp,fun b' cs q=>?_,R0.lt,R0.apart,R0.inj,fun j e' q=>?_,fun j hj=>?_⟩
       .obtain ⟨e',g1,g2⟩:=R0.box b' cs q
        refine ⟨e',?_,g2⟩
        rw [tget_tset_ne _ _ _ _ (fun e1=>by have:=R.apart b' cs q; rw [<- e1,he] at this; cases this)]
        exact g1
       .have q':=q
        simp only [KH.del] at q'
        split at q'
        .cases q'
        .rename_i hne
         rw [tget_tset_ne _ _ _ _ (Ne.symm hne)]
         exact R.know j e' q'
       .show tget (tset h.m b.block none) j=none
        rw [tget_tset]
        split
        .rfl
        .exact R.wf j hj
      have F1:Fr H0 h0 ν B (H.del b.block) ⟨tset h.m b.block none,h.nxt⟩:=by
       refine ⟨F.nxt,fun k q1 q2=>?_,fun k q=>?_,F.box⟩
       .have:b.block≠k:=fun e1=>by
         subst e1
         rcases F.new _ (by rw [he]; simp:H b.block≠none) with q | q
         .exact q q2
         .omega
        show tget (tset h.m b.block none) k=_
        rw [tget_tset_ne _ _ _ _ this]
        exact F.keep k q1 q2
       .simp only [KH.del] at q
        split at q
        .exact absurd rfl q
        .exact F.new k q
      refine ⟨_,rfl,R1.alloc (by show tget (tset h.m b.block none) nm=none; rw [tget_tset_ne _ _ _ _ hbne]; exact hf) hnb,F1.alloc h0n,by simp only [halloc]; omega,fun k q=>?_,fun k _ h1 h2 _=>?_⟩
      .simp only [KH.new,KH.del] at q
       by_cases e1:k=nm
       .exact .inr (.inl e1)
       .rw [if_neg e1] at q
        split at q
        .exact absurd rfl q
        .exact .inl q
      .simp only [halloc]
       rw [tget_tset_ne _ _ _ _ (Ne.symm h2),tget_tset_ne _ _ _ _ (fun e1=>by subst e1; rw [he] at h1; cases h1)]
     .obtain ⟨H1,k1,k2⟩:=ob_some hs
      cases k2
      obtain ⟨h',g1,g2,g3,g4⟩:=store_k R F nm k1
      exact ⟨h',by simp only [g1,ob],g2,g3,g4⟩
 .cases hle:Nat.ble (len+n) cap<;>simp only [hle,cond_true,cond_false] at hs ⊢
  .obtain ⟨old,k1,k2⟩:=ob_some hs
   cases k2
   simp only [old_know R k1,ob]
   exact ⟨_,rfl,R.alloc hf hnb,F.alloc h0n,Xt.alloc⟩
  .cases a with
   | none =>
     simp only at hs ⊢
     cases hz:Nat.beq (len+n) 0<;>simp only [hz,cond_true,cond_false,reduceCtorEq] at hs ⊢
     cases hs
     exact ⟨h,rfl,R,F,Xt.refl nm⟩
   | some b =>
     simp only at hs ⊢
     obtain ⟨H1,k1,k2⟩:=ob_some hs
     cases k2
     obtain ⟨h',g1,g2,g3,g4⟩:=store_k R F nm k1
     exact ⟨h',by simp only [g1,ob],g2,g3,g4⟩
theorem cap_know (R:Rl ν T B H M h) {a:Addr} {cap sz c:Nat} (hl:kcap H a cap sz=some c):capLow h a cap sz=some c:=by
 unfold kcap at hl
 unfold capLow
 cases hb:Nat.blt cap unkU<;>simp only [hb,cond_true,cond_false] at hl ⊢
 .split at hl
  .cases hl
  .rename_i e he
   simp only [R.know _ _ he]
   exact hl
 .exact hl
theorem slice_know (R:Rl ν T B H M h) {sz len cap:Nat} {a:OA} {lo hi:Option Value} {v:Value} (hl:kslice H sz a len cap lo hi=some v):xslice h sz a len cap lo hi none=some v:=by
 unfold kslice at hl
 unfold xslice
 cases a with
 | none=>exact hl
 | some b =>
   simp only at hl ⊢
   cases hsn:b.spot.isNone with
   | false=>rw [hsn] at hl; exact hl
   | true =>
   rw [hsn,cond_true] at hl
   rw [cond_true]
   split at hl
   .rename_i l u c h1 h2 h3
    simp only [h1,h2,cap_know R h3]
    exact hl
   .cases hl
theorem beqI (x y:Int):(x == y)=decide (x=y):=by rw [Bool.eq_iff_iff]; simp
theorem cmpS_some {op:BinOp} {x y:Int} {K:SV->Prop} (hw:cmpS op x y K):∃ b,K (.q b)/\fastC op x y=some (.bool b):=by
 unfold cmpS at hw
 unfold fastC
 split at hw
 .exact ⟨_,hw,by simp only [iEq_eq,beqI]⟩
 .refine ⟨_,hw,?_⟩
  simp only [iEq_eq,beqI]
  congr 2
  simp
 .exact ⟨_,hw,by simp [iLt_eq]⟩
 .exact ⟨_,hw,by simp only [iLt_not]⟩
 .exact ⟨_,hw,by simp [iLt_eq]⟩
 .exact ⟨_,hw,by simp only [iLt_not]⟩
 .exact hw.elim
theorem kindB_eq {a b:IntKind} (h:kindB a b=true):a=b:=by cases a<;>cases b<;>first | rfl | cases h
theorem srun_bind {α β:Type} {P:Program} {s:Sem α} {f:α->Sem β} {a:α} (h:srun P s=some a):srun P (s >>= f)=srun P (f a):=by
 induction s with
 | pure b=>simp only [srun,Option.some.injEq] at h; subst h; rfl
 | program k ih=>exact ih P h
 | _=>simp [srun] at h
theorem guard_unit {op:BinOp} {t:TypeId} {x y:Operand} {p q:Value} (hni:p≠.nilIface) (hna:∀ cs,p≠.agg cs):eqGuard op t x y p q=pure ():=by
 cases op<;>first
  | rfl
  | (cases p<;>first | rfl | (exact absurd rfl hni) | (exact absurd rfl (hna _)))
theorem plain_bin {E:Env} {o:Oper} {op:BinOp} {t t2:TypeId} {x y:Operand} {p q v:Value} (ho:o.op = .binOp op t x y t2) (hx:opv M x=some p) (hy:opv M y=some q) (hp:isPlain p=true) (hq:isPlain q=true) (hv:isPlain v=true)
 (hnf:fastB op p q=none) (hrun:srun E.P (binOp op t p q)=some v) (hni:p≠.nilIface):∀ call nm,xop E call nm o M h=some (v,h):=by
 intro call nm
 have hpa:plainA p=true:=by cases p<;>first | exact hp | cases hp
 have hqa:plainA q=true:=by cases q<;>first | exact hq | cases hq
 have hg:eqGuard op t x y p q=pure ():=guard_unit hni (fun cs e=>by subst e; cases hp)
 have hops:o.op.operands.toList=[x,y]:=by rw [ho]; rfl
 have hvs:opvs (opv M) o.op.operands.toList=some [p,q]:=by rw [hops]; simp only [opvs,hx,hy]
 have hex:srun E.P (execOp (rho (opv M)) o)=some (.value v):=by
  simp only [execOp,ho,rho,hx,hy,Option.getD_some,hg]
  exact Eq.trans (srun_bind (a:=v) hrun) rfl
 have hpl:xplain E o (opv M) h=some (v,h):=by
  unfold xplain
  rw [hvs]
  simp only [allPlainA,hpa,hqa,Bool.and_true,Bool.and_self,cond_true]
  rw [hex]
  simp only [hv,cond_true]
 simp only [xop,xopR,ho,xBin,hx,hy,hnf,xBinEq,hpa,hqa,Bool.and_self,cond_true]
 exact hpl
theorem fast_bin {E:Env} {o:Oper} {op:BinOp} {t t2:TypeId} {x y:Operand} {p q v:Value} (ho:o.op = .binOp op t x y t2) (hx:opv M x=some p) (hy:opv M y=some q) (hf:fastB op p q=some v):∀ call nm,xop E call nm o M h=some (v,h):=by
 intro call nm
 simp only [xop,xopR,ho,xBin,hx,hy,hf]
theorem srun_under {P:Program} {t:TypeId} {d:TypeDesc} (h:P.underlying t=some d):srun P (underlying t)=some d:=by
 simp only [underlying,program,bind,Sem.bind,srun,h]
 first | rfl | (simp [srun])
theorem isKind_spec {E:Env} (hE:EnvT E) {t:TypeId} {k:Nat} (h:isKind E t k=true):∃ d,E.P.underlying t=some d/\(kindOf d).1=k/\∃ ti,tget E.tt t=some ti/\ti.kind=k:=by
 unfold isKind at h
 split at h
 .rename_i ti hti
  obtain ⟨i,d,z,fl,g1,g2,g3,g4,g5,rfl⟩:=ti_spec (hE _ _ hti)
  exact ⟨d,g2,Nat.eq_of_beq_eq_true h,_,hti,Nat.eq_of_beq_eq_true h⟩
 .cases h
theorem kind_bool {d:TypeDesc} (h:(kindOf d).1=9):d = .bool:=by
 cases d<;>simp [kindOf] at h ⊢
 case int k=>cases k<;>simp [kindOf] at h
theorem int_bin {E:Env} {o:Oper} {op:BinOp} {t t2:TypeId} {x y:Operand} {k:IntKind} {m n:Int} {K:SV->Prop} (ho:o.op = .binOp op t x y t2) (hx:opv M x=some (.int k m)) (hy:opv M y=some (.int k n)) (hw:binI op k m n K) :
 ∃ s v,K s/\(∀ ν,den ν s=v)/\∀ call nm,xop E call nm o M h=some (v,h):=by
 have hnf:k≠.i64->k≠.u8->fastB op (.int k m) (.int k n)=none:=fun h1 h2=>by cases k<;>first | rfl | exact absurd rfl h1 | exact absurd rfl h2
 have go:∀ v:Value,isPlain v=true->binOp op t (.int k m) (.int k n) = .pure v->(fastB op (.int k m) (.int k n)=some v\/fastB op (.int k m) (.int k n)=none)->∀ call nm,xop E call nm o M h=some (v,h):=by
  intro v hv h1 h2
  rcases h2 with h2 | h2
  .exact fast_bin ho hx hy h2
  .exact plain_bin ho hx hy rfl rfl hv h2 (by rw [h1]; rfl) (by simp)
 have cmp:∀ op',op=op'->cmpS op' m n K->∃ s v,K s/\(∀ ν,den ν s=v)/\∀ call nm,xop E call nm o M h=some (v,h):=by
  intro op' e hc
  subst e
  obtain ⟨b,h1,h2⟩:=cmpS_some hc
  refine ⟨_,.bool b,h1,fun _=>rfl,go _ rfl ?_ ?_⟩
  .cases op<;>simp only [fastC,reduceCtorEq,Option.some.injEq,Value.bool.injEq] at h2<;>subst h2<;>simp [binOp,Op.intCmp,iEq_eq,iLt_not,bne]<;>first | rfl | (simp [iLt_eq]; rfl) | skip
  .by_cases e1:k = .i64
   .subst e1
    refine .inl ?_
    cases op<;>simp only [fastC,reduceCtorEq] at h2<;>exact h2
   .by_cases e2:k = .u8
    .subst e2; exact .inl h2
    .exact .inr (hnf e1 e2)
 have arith:∀ (r:Int),(op = .add/\r=m+n\/op = .sub/\r=m-n\/op = .mul/\r=m*n)->∀ call nm,xop E call nm o M h=some (.int k (k.wrap r),h):=by
  intro r hr
  refine go _ rfl ?_ ?_
  .rcases hr with ⟨rfl,rfl⟩ | ⟨rfl,rfl⟩ | ⟨rfl,rfl⟩<;>simp [binOp,Op.intArith]<;>rfl
  .by_cases e1:k = .i64
   .subst e1
    refine .inl ?_
    rcases hr with ⟨rfl,rfl⟩ | ⟨rfl,rfl⟩ | ⟨rfl,rfl⟩<;>simp only [fastB,fastI,wrapF_eq]<;>rfl
   .by_cases e2:k = .u8
    .subst e2
     refine .inr ?_
     rcases hr with ⟨rfl,rfl⟩ | ⟨rfl,rfl⟩ | ⟨rfl,rfl⟩<;>rfl
    .exact .inr (hnf e1 e2)
 have divs:(op = .quo\/op = .rem)->fastB op (.int k m) (.int k n)=none:=by
  intro e
  rcases e with rfl | rfl<;>cases k<;>rfl
 unfold binI at hw
 split at hw
 .exact ⟨_,_,hw,fun _=>rfl,arith _ (.inl ⟨rfl,rfl⟩)⟩
 .exact ⟨_,_,hw,fun _=>rfl,arith _ (.inr (.inl ⟨rfl,rfl⟩))⟩
 .exact ⟨_,_,hw,fun _=>rfl,arith _ (.inr (.inr ⟨rfl,rfl⟩))⟩
 .refine ⟨_,_,hw.2,fun _=>rfl,go _ rfl ?_ (.inr (divs (.inl rfl)))⟩
  simp [binOp,Op.intDiv,hw.1]; rfl
 .refine ⟨_,_,hw.2,fun _=>rfl,go _ rfl ?_ (.inr (divs (.inr rfl)))⟩
  simp [binOp,Op.intDiv,hw.1]; rfl
 .refine ⟨_,_,hw.2,fun _=>rfl,go _ rfl ?_ (.inr (by cases k<;>rfl))⟩
  have hn:¬ n<0:=by have:=hw.1; omega
  simp only [binOp,Op.shift,if_neg hn]; rfl
 .refine ⟨_,_,hw.2,fun _=>rfl,go _ rfl ?_ (.inr (by cases k<;>rfl))⟩
  have hn:¬ n<0:=by have:=hw.1; omega
  simp only [binOp,Op.shift,if_neg hn]; rfl
 .exact ⟨_,_,hw,fun _=>rfl,go _ rfl (by simp only [binOp]; rw [if_neg (fun z=>z rfl)]; rfl) (.inr (by cases k<;>rfl))⟩
 .exact ⟨_,_,hw,fun _=>rfl,go _ rfl (by simp only [binOp]; rw [if_neg (fun z=>z rfl)]; rfl) (.inr (by cases k<;>rfl))⟩
 .exact cmp _ rfl hw
theorem sh_bin {E:Env} {o:Oper} {op:BinOp} {t t2:TypeId} {x y:Operand} {k l:IntKind} {m n:Int} {K:SV->Prop} (ho:o.op = .binOp op t x y t2) (hx:opv M x=some (.int k m)) (hy:opv M y=some (.int l n)) (hkl:kindB k l=false) (hw:shI op k m n K) :
 ∃ s v,K s/\(∀ ν,den ν s=v)/\∀ call nm,xop E call nm o M h=some (v,h):=by
 have hnf:fastB op (.int k m) (.int l n)=none:=by cases k<;>cases l<;>first | rfl | cases hkl
 have go:∀ v:Value,isPlain v=true->binOp op t (.int k m) (.int l n) = .pure v->∀ call nm,xop E call nm o M h=some (v,h) :=
  fun v hv h1=>plain_bin ho hx hy rfl rfl hv hnf (by rw [h1]; rfl) (by simp)
 unfold shI at hw
 split at hw
 .refine ⟨_,_,hw.2,fun _=>rfl,go _ rfl ?_⟩
  have hn:¬ n<0:=by have:=hw.1; omega
  simp only [binOp,Op.shift,if_neg hn]; rfl
 .refine ⟨_,_,hw.2,fun _=>rfl,go _ rfl ?_⟩
  have hn:¬ n<0:=by have:=hw.1; omega
  simp only [binOp,Op.shift,if_neg hn]; rfl
 .exact hw.elim
end
end Go.Ew
namespace Go.Ew
open Go.Ev Go.Deep
theorem srun_info {P:Program} {t:TypeId} {i:TypeInfo} (h:P.info? t=some i):srun P (Go.sizeOf t)=some i.size:=by
 have:srun P (typeInfo t)=some i:=by
  simp only [typeInfo,program,bind,Sem.bind,srun,h]
  first | rfl | (simp [srun])
 exact Eq.trans (srun_bind this) rfl
theorem srun_part {P:Program} {t:TypeId} {k:IntKind} (hu:P.underlying t=some (.int k)) {cs:Array Value} {o:Nat} {v:Value} (h:cs[o]? = some v):srun P (Go.part t cs o)=some v:=by
 have h1:srun P (isAgg t)=some false:=Eq.trans (srun_bind (srun_under hu)) rfl
 unfold Go.part
 rw [srun_bind h1]
 simp only [Bool.false_eq_true,if_false,h]
 rfl
theorem eqInts_get:∀ {xs ys:List Value} {r:Bool} {i:Nat},eqInts xs ys=some r->i<xs.length->∃ k a b,xs[i]? = some (.int k a)/\ys[i]? = some (.int k b)
 | [],[],r,i,h,hi=>by simp at hi
 | [],y :: ys,r,i,h,hi=>by simp at hi
 | x :: xs,[],r,i,h,hi=>by cases x<;>simp [eqInts] at h
 | x :: xs,y :: ys,r,i,h,hi=>by
   cases x<;>cases y<;>simp only [eqInts] at h<;>try cases h
   rename_i k a k' b
   cases hk:kindB k k'<;>rw [hk] at h
   .cases h
   .have:=kindB_eq hk
    subst this
    cases i with
    | zero=>exact ⟨k,a,b,rfl,rfl⟩
    | succ i =>
      simp only [cond_true] at h
      split at h
      .rename_i r' hr
       obtain ⟨k2,a2,b2,g1,g2⟩:=eqInts_get hr (by simpa using hi)
       exact ⟨k2,a2,b2,by simpa using g1,by simpa using g2⟩
      .cases h
theorem eqInts_len:∀ {xs ys:List Value} {r:Bool},eqInts xs ys=some r->xs.length=ys.length
 | [],[],r,h=>rfl
 | [],y :: ys,r,h=>by simp [eqInts] at h
 | x :: xs,[],r,h=>by cases x<;>simp [eqInts] at h
 | x :: xs,y :: ys,r,h=>by
   cases x<;>cases y<;>simp only [eqInts] at h<;>try cases h
   rename_i k a k' b
   cases hk:kindB k k'<;>rw [hk] at h
   .cases h
   .simp only [cond_true] at h
    split at h
    .rename_i r' hr
     simp [eqInts_len hr]
    .cases h
theorem eqInts_drop {xs ys:List Value} {i:Nat} {k:IntKind} {a b:Int}:∀ {r:Bool},eqInts (xs.drop i) (ys.drop i)=some r->xs[i]? = some (.int k a)->ys[i]? = some (.int k b)->∃ r',eqInts (xs.drop (i+1)) (ys.drop (i+1))=some r'/\r=(decide (a=b)&&r'):=by
 intro r h h1 h2
 have e1:xs.drop i = .int k a :: xs.drop (i+1):=by
  obtain ⟨hi,e⟩:=List.getElem?_eq_some_iff.1 h1
  rw [List.drop_eq_getElem_cons hi,e]
 have e2:ys.drop i = .int k b :: ys.drop (i+1):=by
  obtain ⟨hi,e⟩:=List.getElem?_eq_some_iff.1 h2
  rw [List.drop_eq_getElem_cons hi,e]
 rw [e1,e2,eqInts] at h
 cases hk:kindB k k with
 | false=>rw [hk] at h; cases h
 | true =>
   rw [hk] at h
   simp only [cond_true] at h
   split at h
   .rename_i r' hr
    exact ⟨r',hr,(Option.some.inj h).symm⟩
   .cases h
theorem eq_int {P:Program} {t:TypeId} {k0 k:IntKind} (hu:P.underlying t=some (.int k0)) (d:Nat) (a b:Int):srun P (Op.equalIn (d+1) t (.int k a) (.int k b))=some (decide (a=b)):=by
 rw [Op.equalIn]
 rw [srun_bind (srun_under hu)]
 simp only [if_true]
 rfl
def arrRest (r:Bool):Option Bool × Unit:=bif r then (none,()) else (some false,())
theorem eq_loop {P:Program} {e:TypeId} {k0:IntKind} (he:P.underlying e=some (.int k0)) (d:Nat) {xs ys:Array Value}:∀ (n i:Nat) (r:Bool),i+n=xs.toList.length->eqInts (xs.toList.drop i) (ys.toList.drop i)=some r->
 srun P (forIn (List.range' i n) ((none,()):Option Bool × Unit) fun i __s=>do
  let __do_lift <- Go.part e xs (i*1)
  let __do_lift_1 <- Go.part e ys (i*1)
  let __do_lift <- Op.equalIn (d+1) e __do_lift __do_lift_1
  if (!__do_lift)=true then pure (ForInStep.done (some false,())) else pure (ForInStep.yield (none,())))=some (arrRest r)
 | 0,i,r,hn,h=>by
   have h1:xs.toList.drop i=[]:=List.drop_eq_nil_of_le (by omega)
   have hl:(xs.toList.drop i).length=(ys.toList.drop i).length:=eqInts_len h
   rw [h1] at h hl
   have h2:ys.toList.drop i=[]:=List.eq_nil_of_length_eq_zero (by simpa using hl.symm)
   rw [h2] at h
   cases h
   rfl
 | n+1,i,r,hn,h=>by
   obtain ⟨k,a,b,g1,g2⟩:=eqInts_get (i:=0) h (by simp at hn ⊢; omega)
   have g1:xs.toList[i]? = some (.int k a):=by simpa using g1
   have g2:ys.toList[i]? = some (.int k b):=by simpa using g2
   obtain ⟨r',h3,rfl⟩:=eqInts_drop h g1 g2
   have p1:srun P (Go.part e xs (i*1))=some (.int k a):=srun_part he (by simpa using g1)
   have p2:srun P (Go.part e ys (i*1))=some (.int k b):=srun_part he (by simpa using g2)
   have p3:=eq_int (k:=k) he d a b
   have ih:=eq_loop he d n (i+1) r' (by omega) h3
   rw [List.range'_succ,List.forIn_cons]
   by_cases hab:a=b
   .have p4:srun P (Op.equalIn (d+1) e (.int k a) (.int k b))=some true:=by rw [p3,decide_eq_true hab]
    rw [decide_eq_true hab,Bool.true_and,<- ih]
    refine srun_bind (a:=ForInStep.yield (none,())) ?_
    rw [srun_bind p1,srun_bind p2,srun_bind p4]
    rfl
   .have p4:srun P (Op.equalIn (d+1) e (.int k a) (.int k b))=some false:=by rw [p3,decide_eq_false hab]
    rw [decide_eq_false hab,Bool.false_and]
    refine Eq.trans (srun_bind (a:=ForInStep.done (some false,())) ?_) rfl
    rw [srun_bind p1,srun_bind p2,srun_bind p4]
    rfl
theorem eq_arr {P:Program} {t e:TypeId} {len:Nat} {k0:IntKind} {i:TypeInfo} (hu:P.underlying t=some (.array len e)) (he:P.underlying e=some (.int k0)) (hi:P.info? e=some i) (hs:i.size=1) (d:Nat) {xs ys:Array Value} {r:Bool} (hl:xs.toList.length=len) (h:eqInts xs.toList ys.toList=some r) :
 srun P (Op.equalIn (d+2) t (.agg xs) (.agg ys))=some r:=by
 rw [Op.equalIn]
 rw [srun_bind (srun_under hu)]
 simp only []
 rw [srun_bind (srun_info hi),hs]
 simp only [Std.Legacy.Range.forIn_eq_forIn_range',Std.Legacy.Range.size,Nat.sub_zero,Nat.add_sub_cancel,Nat.div_one]
 rw [srun_bind (eq_loop he d len 0 r (by omega) (by simpa using h))]
 cases r<;>rfl
theorem eqInts_plain:∀ {xs ys:List Value} {r:Bool},eqInts xs ys=some r->allPlain xs=true/\allPlain ys=true
 | [],[],r,h=>⟨rfl,rfl⟩
 | [],y :: ys,r,h=>by simp [eqInts] at h
 | x :: xs,[],r,h=>by cases x<;>simp [eqInts] at h
 | x :: xs,y :: ys,r,h=>by
   cases x<;>cases y<;>simp only [eqInts] at h<;>try cases h
   rename_i k a k' b
   cases hk:kindB k k'<;>rw [hk] at h
   .cases h
   .simp only [cond_true] at h
    split at h
    .rename_i r' hr
     obtain ⟨h1,h2⟩:=eqInts_plain hr
     exact ⟨by simp [allPlain,isPlain,h1],by simp [allPlain,isPlain,h2]⟩
    .cases h
theorem guardIn_arr {P:Program} {t e:TypeId} {len:Nat} {k0:IntKind} {i:TypeInfo} (hu:P.underlying t=some (.array len e)) (he:P.underlying e=some (.int k0)) (hi:P.info? e=some i) (hs:i.size=1) (d:Nat) {xs ys:Array Value} {r:Bool} (hl:xs.toList.length=len) (h:eqInts xs.toList ys.toList=some r) :
 srun P (Op.eqGuardIn (d+2) t (.agg xs) (.agg ys))=some false:=by
 rw [Op.eqGuardIn]
 rw [srun_bind (srun_under hu)]
 simp only []
 rw [srun_bind (srun_info hi),hs]
 simp only [Std.Legacy.Range.forIn_eq_forIn_range',Std.Legacy.Range.size,Nat.sub_zero,Nat.add_sub_cancel,Nat.div_one]
 have go:∀ (n i:Nat),i+n=xs.toList.length->srun P (forIn (List.range' i n) ((none,()):Option Bool × Unit) fun i __s=>do
  let __do_lift <- Go.part e xs (i*1)
  let __do_lift_1 <- Go.part e ys (i*1)
  let __do_lift <- Op.eqGuardIn (d+1) e __do_lift __do_lift_1
  if __do_lift=true then pure (ForInStep.done (some true,())) else pure (ForInStep.yield (none,())))=some (none,()):=by
  intro n
  induction n with
  | zero=>intro i _; rfl
  | succ n ih =>
    intro i hn
    obtain ⟨k,a,b,g1,g2⟩:=eqInts_get (i:=i) h (by omega)
    have p1:srun P (Go.part e xs (i*1))=some (.int k a):=srun_part he (by simpa using g1)
    have p2:srun P (Go.part e ys (i*1))=some (.int k b):=srun_part he (by simpa using g2)
    have p3:srun P (Op.eqGuardIn (d+1) e (.int k a) (.int k b))=some false:=by
     rw [Op.eqGuardIn,srun_bind (srun_under he)]
     rfl
    rw [List.range'_succ,List.forIn_cons,<- ih (i+1) (by omega)]
    refine srun_bind (a:=ForInStep.yield (none,())) ?_
    rw [srun_bind p1,srun_bind p2,srun_bind p3]
    rfl
 rw [srun_bind (go len 0 (by omega))]
 rfl
theorem guard_arr {P:Program} {op:BinOp} {t e:TypeId} {len:Nat} {k0:IntKind} {x y:Operand} {i:TypeInfo} (hu:P.underlying t=some (.array len e)) (he:P.underlying e=some (.int k0)) (hi:P.info? e=some i) (hs:i.size=1) {xs ys:Array Value} {r:Bool} (hl:xs.toList.length=len) (h:eqInts xs.toList ys.toList=some r):srun P (eqGuard op t x y (.agg xs) (.agg ys))=some ():=by
 have hg:srun P (Op.eqGuardIn Op.maxDepth t (.agg xs) (.agg ys))=some false:=guardIn_arr hu he hi hs 9998 hl h
 have main:∀ u:Sem Unit,srun P (program >>= fun p1=>program >>= fun p2=>if (!p1.eqGuardType p2.depth t)=true then pure () else Op.eqGuardIn Op.maxDepth t (.agg xs) (.agg ys) >>= fun b=>if b=true then u else pure ())=some ():=by
  intro u
  rw [srun_bind (a:=P) rfl,srun_bind (a:=P) rfl]
  split
  .rfl
  .rw [srun_bind hg]
   rfl
 cases op<;>first | exact main _ | rfl
theorem plain_arr {E:Env} {M:Tm} {h:Hp} {o:Oper} {op:BinOp} {t t2:TypeId} {x y:Operand} {xs ys:Array Value} {v:Value} (ho:o.op = .binOp op t x y t2) (hx:opv M x=some (.agg xs)) (hy:opv M y=some (.agg ys)) (hp:allPlain xs.toList=true) (hq:allPlain ys.toList=true) (hv:isPlain v=true)
 (hg:srun E.P (eqGuard op t x y (.agg xs) (.agg ys))=some ()) (hrun:srun E.P (binOp op t (.agg xs) (.agg ys))=some v):∀ call nm,xop E call nm o M h=some (v,h):=by
 intro call nm
 have hpa:plainA (.agg xs)=true:=hp
 have hqa:plainA (.agg ys)=true:=hq
 have hops:o.op.operands.toList=[x,y]:=by rw [ho]; rfl
 have hvs:opvs (opv M) o.op.operands.toList=some [.agg xs,.agg ys]:=by rw [hops]; simp only [opvs,hx,hy]
 have hex:srun E.P (execOp (rho (opv M)) o)=some (.value v):=by
  simp only [execOp,ho,rho,hx,hy,Option.getD_some]
  refine Eq.trans (srun_bind (a:=v) ?_) rfl
  exact Eq.trans (srun_bind hg) hrun
 have hpl:xplain E o (opv M) h=some (v,h):=by
  unfold xplain
  rw [hvs]
  simp only [allPlainA,hpa,hqa,Bool.and_true,Bool.and_self,cond_true]
  rw [hex]
  simp only [hv,cond_true]
 simp only [xop,xopR,ho,xBin,hx,hy,fastB,xBinEq,hpa,hqa,Bool.and_self,cond_true]
 exact hpl
theorem kind_array {d:TypeDesc} (h:(kindOf d).1=2):∃ m e,d = .array m e:=by
 cases d<;>simp [kindOf] at h ⊢
 case int k=>cases k<;>simp [kindOf] at h
theorem arrK_spec {E:Env} (hE:EnvT E) {t:TypeId} {n:Nat} (h:arrK E t n=true):∃ e k i,E.P.underlying t=some (.array n e)/\E.P.underlying e=some (.int k)/\E.P.info? e=some i/\i.size=1:=by
 unfold arrK at h
 split at h
 .rename_i ti hti
  obtain ⟨i,d,z,fl,g1,g2,g3,g4,g5,rfl⟩:=ti_spec (hE _ _ hti)
  simp only [Bool.and_eq_true] at h
  obtain ⟨h1,h2,h3⟩:=h
  have h1:(kindOf d).1=2:=Nat.eq_of_beq_eq_true h1
  have h2:(kindOf d).2.2=n:=Nat.eq_of_beq_eq_true h2
  have hd:=kind_array h1
  obtain ⟨m,e,rfl⟩:=hd
  .have h2:m=n:=h2
   subst h2
   split at h3
   .rename_i ei hei
    obtain ⟨i',d',z',fl',g1',g2',g3',g4',g5',rfl⟩:=ti_spec (hE _ _ hei)
    simp only [Bool.and_eq_true,Bool.or_eq_true] at h3
    have hs:=Nat.eq_of_beq_eq_true h3.2
    have hk:(kindOf d').1=5\/(kindOf d').1=6:=h3.1.imp Nat.eq_of_beq_eq_true Nat.eq_of_beq_eq_true
    have g1':E.P.info? e=some i':=g1'
    have g2':E.P.underlying e=some d':=g2'
    have hd:∃ k,d' = .int k:=by
     cases d'<;>simp [kindOf] at hk ⊢
    obtain ⟨k,rfl⟩:=hd
    exact ⟨e,k,i',g2,g2',g1',hs⟩
   .cases h3
 .cases h
theorem ba_beq {a b:ByteArray}:(a == b)=true↔a=b:=by
 cases a; cases b
 rename_i x y
 show (x == y)=true↔_
 simp
theorem eqC_run {P:Program} {t:TypeId} {x y:Value} {r:Bool} (h:eqC x y=some r) (hu:fitC (P.underlying t) x=true) (d:Nat):srun P (Op.equalIn (d+1) t x y)=some r/\srun P (Op.eqGuardIn (d+1) t x y)=some false/\(isPlain x=true/\isPlain y=true)/\srun P (isAgg t)=some false:=by
 cases hd:P.underlying t with
 | none=>rw [hd] at hu; cases x<;>cases hu
 | some td =>
   rw [hd] at hu
   cases x<;>cases td<;>simp only [fitC] at hu<;>try cases hu
   .rename_i a
    cases y<;>simp only [eqC] at h<;>try cases h
    refine ⟨?_,?_,⟨rfl,rfl⟩,Eq.trans (srun_bind (srun_under hd)) rfl⟩
    .rw [Op.equalIn,srun_bind (srun_under hd)]
     rfl
    .rw [Op.eqGuardIn,srun_bind (srun_under hd)]
     rfl
   .rename_i k' a k
    cases y<;>simp only [eqC] at h<;>try cases h
    rename_i k2 b
    cases hk:kindB k' k2<;>rw [hk] at h
    .cases h
    .have:=kindB_eq hk
     subst this
     cases h
     refine ⟨eq_int hd d a b,?_,⟨rfl,rfl⟩,Eq.trans (srun_bind (srun_under hd)) rfl⟩
     rw [Op.eqGuardIn,srun_bind (srun_under hd)]
     rfl
   .rename_i a
    cases y<;>simp only [eqC] at h<;>try cases h
    rename_i b
    refine ⟨?_,?_,⟨rfl,rfl⟩,Eq.trans (srun_bind (srun_under hd)) rfl⟩
    .rw [Op.equalIn,srun_bind (srun_under hd)]
     show some (a == b)=_
     congr 1
     rw [Bool.eq_iff_iff]
     simp only [strEq,beq_iff_eq]
     constructor
     .intro e; rw [ba_beq.1 e]
     .intro e
      refine ba_beq.2 ?_
      rw [ByteArray.toList_eq,ByteArray.toList_eq] at e
      cases a; cases b
      exact congrArg ByteArray.mk (Array.toList_inj.1 e)
    .rw [Op.eqGuardIn,srun_bind (srun_under hd)]
     rfl
theorem partC {P:Program} {t:TypeId} (hu:srun P (isAgg t)=some false) {cs:Array Value} {o:Nat} {v:Value} (h:cs[o]? = some v):srun P (Go.part t cs o)=some v:=by
 unfold Go.part
 rw [srun_bind hu]
 simp only [Bool.false_eq_true,if_false,h]
 rfl
theorem eqCs_step {x y:Value} {l m:List Value} {r:Bool} (h:eqCs (x :: l) (y :: m)=some r):∃ r1 r2,eqC x y=some r1/\eqCs l m=some r2/\r=(r1&&r2):=by
 simp only [eqCs] at h
 split at h
 .rename_i r1 h1
  split at h
  .rename_i r2 h2
   exact ⟨r1,r2,h1,h2,(Option.some.inj h).symm⟩
  .cases h
 .cases h
theorem eqCs_len:∀ {xs ys:List Value} {r:Bool},eqCs xs ys=some r->xs.length=ys.length
 | [],[],r,h=>rfl
 | [],y :: ys,r,h=>by simp [eqCs] at h
 | x :: xs,[],r,h=>by simp [eqCs] at h
 | x :: xs,y :: ys,r,h=>by
   obtain ⟨r1,r2,_,h2,_⟩:=eqCs_step h
   simp [eqCs_len h2]
theorem eqCs_plain:∀ {xs ys:List Value} {r:Bool},eqCs xs ys=some r->allPlain xs=true/\allPlain ys=true
 | [],[],r,h=>⟨rfl,rfl⟩
 | [],y :: ys,r,h=>by simp [eqCs] at h
 | x :: xs,[],r,h=>by simp [eqCs] at h
 | x :: xs,y :: ys,r,h=>by
   obtain ⟨r1,r2,h1,h2,_⟩:=eqCs_step h
   obtain ⟨g1,g2⟩:=eqCs_plain h2
   have:isPlain x=true/\isPlain y=true:=by
    cases x<;>cases y<;>first | exact ⟨rfl,rfl⟩ | (simp only [eqC] at h1; cases h1)
   exact ⟨by simp [allPlain,this.1,g1],by simp [allPlain,this.2,g2]⟩
theorem str_loop {P:Program} (d:Nat) {xs ys:Array Value}:∀ (fs:List Field) (i:Nat) (r:Bool),fldC P fs i (xs.toList.drop i)=true->eqCs (xs.toList.drop i) (ys.toList.drop i)=some r->
 srun P (forIn fs ((none,()):Option Bool × Unit) fun f __s =>
  if f.name ≠ "_" then do
   let __do_lift <- Go.part f.type xs f.offset
   let __do_lift_1 <- Go.part f.type ys f.offset
   let __do_lift <- Op.equalIn (d+1) f.type __do_lift __do_lift_1
   if (!__do_lift)=true then pure (ForInStep.done (some false,())) else pure (ForInStep.yield (none,()))
  else pure (ForInStep.yield (none,())))=some (arrRest r)/\
 srun P (forIn fs ((none,()):Option Bool × Unit) fun f __s =>
  if f.name ≠ "_" then do
   let __do_lift <- Go.part f.type xs f.offset
   let __do_lift_1 <- Go.part f.type ys f.offset
   let __do_lift <- Op.eqGuardIn (d+1) f.type __do_lift __do_lift_1
   if __do_lift=true then pure (ForInStep.done (some true,())) else pure (ForInStep.yield (none,()))
  else pure (ForInStep.yield (none,())))=some (none,())
 | [],i,r,hf,h=>by
   cases hx:xs.toList.drop i with
   | cons a l=>rw [hx] at hf; cases hf
   | nil =>
     rw [hx] at h
     cases hy:ys.toList.drop i with
     | cons b l=>rw [hy] at h; simp [eqCs] at h
     | nil=>rw [hy] at h; cases h; exact ⟨rfl,rfl⟩
 | f :: fs,i,r,hf,h=>by
   cases hx:xs.toList.drop i with
   | nil=>rw [hx] at hf; cases hf
   | cons x l =>
     rw [hx] at hf h
     cases hy:ys.toList.drop i with
     | nil=>rw [hy] at h; simp [eqCs] at h
     | cons y m =>
       rw [hy] at h
       obtain ⟨r1,r2,h1,h2,rfl⟩:=eqCs_step h
       simp only [fldC,Bool.and_eq_true] at hf
       obtain ⟨f1,f2,f3,f4⟩:=hf
       have f1:=Nat.eq_of_beq_eq_true f1
       obtain ⟨e1,e2,_,e4⟩:=eqC_run h1 f3 d
       have dx:xs.toList.drop (i+1)=l:=by rw [<- List.tail_drop,hx]; rfl
       have dy:ys.toList.drop (i+1)=m:=by rw [<- List.tail_drop,hy]; rfl
       have gx:xs[i]? = some x:=by
        have:xs.toList[i]? = some x:=by rw [<- List.head?_drop,hx]; rfl
        simpa using this
       have gy:ys[i]? = some y:=by
        have:ys.toList[i]? = some y:=by rw [<- List.head?_drop,hy]; rfl
        simpa using this
       obtain ⟨i1,i2⟩:=str_loop d (xs:=xs) (ys:=ys) fs (i+1) r2 (by rw [dx]; exact f4) (by rw [dx,dy]; exact h2)
       have hn : f.name ≠ "_" := by simpa using f2
       have p1:=partC e4 (o:=f.offset) (by rw [f1]; exact gx)
       have p2:=partC e4 (o:=f.offset) (by rw [f1]; exact gy)
       refine ⟨?_,?_⟩
       .rw [List.forIn_cons,if_pos hn]
        cases r1 with
        | true =>
          rw [Bool.true_and,<- i1]
          refine srun_bind (a:=ForInStep.yield (none,())) ?_
          rw [srun_bind p1,srun_bind p2,srun_bind e1]
          rfl
        | false =>
          rw [Bool.false_and]
          refine Eq.trans (srun_bind (a:=ForInStep.done (some false,())) ?_) rfl
          rw [srun_bind p1,srun_bind p2,srun_bind e1]
          rfl
       .rw [List.forIn_cons,if_pos hn,<- i2]
        refine srun_bind (a:=ForInStep.yield (none,())) ?_
        rw [srun_bind p1,srun_bind p2,srun_bind e2]
        rfl
theorem strK_run {P:Program} {t:TypeId} {op:BinOp} {x y:Operand} {xs ys:Array Value} {r:Bool} (hk:strK P t xs.toList=true) (h:eqCs xs.toList ys.toList=some r) :
 srun P (Op.equal t (.agg xs) (.agg ys))=some r/\srun P (eqGuard op t x y (.agg xs) (.agg ys))=some ():=by
 unfold strK at hk
 split at hk
 .rename_i fs hu
  simp only [Bool.and_eq_true,Bool.not_eq_true'] at hk
  obtain ⟨hh,hf⟩:=hk
  obtain ⟨l1,l2⟩:=str_loop 9998 (xs:=xs) (ys:=ys) fs.toList 0 r (by simpa using hf) (by simpa using h)
  have hq:srun P (Op.equalIn (9998+2) t (.agg xs) (.agg ys))=some r:=by
   rw [Op.equalIn,srun_bind (srun_under hu)]
   simp only []
   rw [srun_bind (a:=P) rfl,hh]
   simp only [Bool.false_eq_true,if_false]
   rw [<- Array.forIn_toList,srun_bind l1]
   cases r<;>rfl
  have hg:srun P (Op.eqGuardIn (9998+2) t (.agg xs) (.agg ys))=some false:=by
   rw [Op.eqGuardIn,srun_bind (srun_under hu)]
   simp only []
   rw [<- Array.forIn_toList,srun_bind l2]
   rfl
  refine ⟨hq,?_⟩
  have main:∀ u:Sem Unit,srun P (program >>= fun p1=>program >>= fun p2=>if (!p1.eqGuardType p2.depth t)=true then pure () else Op.eqGuardIn Op.maxDepth t (.agg xs) (.agg ys) >>= fun b=>if b=true then u else pure ())=some ():=by
   intro u
   rw [srun_bind (a:=P) rfl,srun_bind (a:=P) rfl]
   split
   .rfl
   .have hg:srun P (Op.eqGuardIn Op.maxDepth t (.agg xs) (.agg ys))=some false:=hg
    rw [srun_bind hg]
    rfl
  cases op<;>first | exact main _ | rfl
 .cases hk
theorem arr_loop {P:Program} {e:TypeId} (d:Nat) {xs ys:Array Value} (hfit:∀ v∈xs.toList,fitC (P.underlying e) v=true):∀ (n i:Nat) (r:Bool),i+n=xs.toList.length->eqCs (xs.toList.drop i) (ys.toList.drop i)=some r->
 srun P (forIn (List.range' i n) ((none,()):Option Bool × Unit) fun i __s=>do
  let __do_lift <- Go.part e xs (i*1)
  let __do_lift_1 <- Go.part e ys (i*1)
  let __do_lift <- Op.equalIn (d+1) e __do_lift __do_lift_1
  if (!__do_lift)=true then pure (ForInStep.done (some false,())) else pure (ForInStep.yield (none,())))=some (arrRest r)/\
 srun P (forIn (List.range' i n) ((none,()):Option Bool × Unit) fun i __s=>do
  let __do_lift <- Go.part e xs (i*1)
  let __do_lift_1 <- Go.part e ys (i*1)
  let __do_lift <- Op.eqGuardIn (d+1) e __do_lift __do_lift_1
  if __do_lift=true then pure (ForInStep.done (some true,())) else pure (ForInStep.yield (none,())))=some (none,())
 | 0,i,r,hn,h=>by
   have h1:xs.toList.drop i=[]:=List.drop_eq_nil_of_le (by omega)
   have hl:(xs.toList.drop i).length=(ys.toList.drop i).length:=eqCs_len h
   rw [h1] at h hl
   have h2:ys.toList.drop i=[]:=List.eq_nil_of_length_eq_zero (by simpa using hl.symm)
   rw [h2] at h
   cases h
   exact ⟨rfl,rfl⟩
 | n+1,i,r,hn,h=>by
   have hlen:=eqCs_len h
   cases hx:xs.toList.drop i with
   | nil=>have:=congrArg List.length hx; simp at this hn; omega
   | cons x l =>
     rw [hx] at h
     cases hy:ys.toList.drop i with
     | nil=>rw [hy] at h; simp [eqCs] at h
     | cons y m =>
       rw [hy] at h
       obtain ⟨r1,r2,h1,h2,rfl⟩:=eqCs_step h
       have gx0:xs.toList[i]? = some x:=by rw [<- List.head?_drop,hx]; rfl
       have gy0:ys.toList[i]? = some y:=by rw [<- List.head?_drop,hy]; rfl
       have gx:xs[i]? = some x:=by simpa using gx0
       have gy:ys[i]? = some y:=by simpa using gy0
       obtain ⟨e1,e2,_,e4⟩:=eqC_run h1 (hfit x (List.mem_of_getElem? gx0)) d
       have dx:xs.toList.drop (i+1)=l:=by rw [<- List.tail_drop,hx]; rfl
       have dy:ys.toList.drop (i+1)=m:=by rw [<- List.tail_drop,hy]; rfl
       obtain ⟨i1,i2⟩:=arr_loop (xs:=xs) (ys:=ys) d hfit n (i+1) r2 (by omega) (by rw [dx,dy]; exact h2)
       have p1:=partC e4 (o:=i*1) (by rw [Nat.mul_one]; exact gx)
       have p2:=partC e4 (o:=i*1) (by rw [Nat.mul_one]; exact gy)
       refine ⟨?_,?_⟩
       .rw [List.range'_succ,List.forIn_cons]
        cases r1 with
        | true =>
          rw [Bool.true_and,<- i1]
          refine srun_bind (a:=ForInStep.yield (none,())) ?_
          rw [srun_bind p1,srun_bind p2,srun_bind e1]
          rfl
        | false =>
          rw [Bool.false_and]
          refine Eq.trans (srun_bind (a:=ForInStep.done (some false,())) ?_) rfl
          rw [srun_bind p1,srun_bind p2,srun_bind e1]
          rfl
       .rw [List.range'_succ,List.forIn_cons,<- i2]
        refine srun_bind (a:=ForInStep.yield (none,())) ?_
        rw [srun_bind p1,srun_bind p2,srun_bind e2]
        rfl
theorem arrC_run {E:Env} (hE:EnvT E) {t:TypeId} {op:BinOp} {x y:Operand} {xs ys:Array Value} {r:Bool} (hk:arrC E t xs.toList=true) (h:eqCs xs.toList ys.toList=some r) :
 srun E.P (Op.equal t (.agg xs) (.agg ys))=some r/\srun E.P (eqGuard op t x y (.agg xs) (.agg ys))=some ():=by
 unfold arrC at hk
 split at hk
 .rename_i ti hti
  obtain ⟨i,d,z,fl,g1,g2,g3,g4,g5,rfl⟩:=ti_spec (hE _ _ hti)
  simp only [Bool.and_eq_true] at hk
  obtain ⟨h1,h2,h3⟩:=hk
  have h1:(kindOf d).1=2:=Nat.eq_of_beq_eq_true h1
  have h2:(kindOf d).2.2=xs.toList.length:=Nat.eq_of_beq_eq_true h2
  obtain ⟨m,e,rfl⟩:=kind_array h1
  have h2:m=xs.toList.length:=h2
  split at h3
  .rename_i ei hei
   obtain ⟨i',d',z',fl',g1',g2',g3',g4',g5',rfl⟩:=ti_spec (hE _ _ hei)
   simp only [Bool.and_eq_true] at h3
   have hs:i'.size=1:=Nat.eq_of_beq_eq_true h3.1
   have g1':E.P.info? e=some i':=g1'
   have hfit:∀ v∈xs.toList,fitC (E.P.underlying e) v=true:=List.all_eq_true.1 h3.2
   obtain ⟨l1,l2⟩:=arr_loop (xs:=xs) (ys:=ys) 9998 hfit m 0 r (by omega) (by simpa using h)
   have hq:srun E.P (Op.equalIn (9998+2) t (.agg xs) (.agg ys))=some r:=by
    rw [Op.equalIn,srun_bind (srun_under g2)]
    simp only []
    rw [srun_bind (srun_info g1'),hs]
    simp only [Std.Legacy.Range.forIn_eq_forIn_range',Std.Legacy.Range.size,Nat.sub_zero,Nat.add_sub_cancel,Nat.div_one]
    rw [srun_bind l1]
    cases r<;>rfl
   have hg:srun E.P (Op.eqGuardIn (9998+2) t (.agg xs) (.agg ys))=some false:=by
    rw [Op.eqGuardIn,srun_bind (srun_under g2)]
    simp only []
    rw [srun_bind (srun_info g1'),hs]
    simp only [Std.Legacy.Range.forIn_eq_forIn_range',Std.Legacy.Range.size,Nat.sub_zero,Nat.add_sub_cancel,Nat.div_one]
    rw [srun_bind l2]
    rfl
   refine ⟨hq,?_⟩
   have main:∀ u:Sem Unit,srun E.P (program >>= fun p1=>program >>= fun p2=>if (!p1.eqGuardType p2.depth t)=true then pure () else Op.eqGuardIn Op.maxDepth t (.agg xs) (.agg ys) >>= fun b=>if b=true then u else pure ())=some ():=by
    intro u
    rw [srun_bind (a:=E.P) rfl,srun_bind (a:=E.P) rfl]
    split
    .rfl
    .have hg:srun E.P (Op.eqGuardIn Op.maxDepth t (.agg xs) (.agg ys))=some false:=hg
     rw [srun_bind hg]
     rfl
   cases op<;>first | exact main _ | rfl
  .cases h3
 .cases hk
theorem srun_bound {P:Program} {k:IntKind} {n:Int} {y:Nat} {code:BoundsCode} (h0:0<=n) (h1:n<=y):srun P (Instr.sliceBound (.int k n) y code)=some n.toNat:=by
 unfold Instr.sliceBound
 rw [srun_bind (a:=(k,n)) rfl]
 simp only [h0,h1,and_self,if_true]
 rfl
theorem slice_str {P:Program} {t:TypeId} {s:ByteArray} {lov hiv:Option Value} {l u:Int} (hu:P.underlying t=some .string) (hl:intOf 0 lov=some l) (hh:intOf s.size hiv=some u) (h0:0<=l) (h1:l<=u) (h2:u<=s.size):srun P (Instr.sliceAt t (.string s) lov hiv none)=some (.string (strCut s l u)):=by
 have hb:srun P (Instr.sliceBounds false s.size s.size lov hiv none)=some (l.toNat,u.toNat,s.size):=by
  have hs:((s.size:Nat):Int).toNat=s.size:=Int.toNat_natCast _
  cases hiv with
  | none =>
    simp only [intOf,Option.some.injEq] at hh
    subst hh
    cases lov with
    | none=>simp only [intOf,Option.some.injEq] at hl; subst hl; rw [hs]; rfl
    | some v =>
      cases v<;>simp only [intOf,Option.some.injEq,reduceCtorEq] at hl
      subst hl
      unfold Instr.sliceBounds
      rw [srun_bind (a:=s.size) rfl]
      show srun P (Instr.sliceBound _ s.size _ >>= _)=_
      rw [srun_bind (srun_bound h0 h1),hs]
      rfl
  | some w =>
    cases w<;>simp only [intOf,Option.some.injEq,reduceCtorEq] at hh
    subst hh
    cases lov with
    | none =>
      simp only [intOf,Option.some.injEq] at hl; subst hl
      unfold Instr.sliceBounds
      rw [srun_bind (a:=s.size) rfl]
      show srun P (Instr.sliceBound _ s.size _ >>= _)=_
      rw [srun_bind (srun_bound (by omega) h2)]
      rfl
    | some v =>
      cases v<;>simp only [intOf,Option.some.injEq,reduceCtorEq] at hl
      subst hl
      unfold Instr.sliceBounds
      rw [srun_bind (a:=s.size) rfl]
      show srun P (Instr.sliceBound _ s.size _ >>= _)=_
      rw [srun_bind (srun_bound (by omega) h2)]
      show srun P (Instr.sliceBound _ _ _ >>= _)=_
      rw [srun_bind (srun_bound h0 (by omega))]
      rfl
 unfold Instr.sliceAt
 rw [srun_bind (srun_under hu)]
 unfold Instr.slice
 show srun P (underlying t >>= _)=_
 rw [srun_bind (srun_under hu)]
 show srun P (Instr.sliceBounds false s.size s.size lov hiv none >>= _)=_
 rw [srun_bind hb]
 rfl
theorem eq_bool {P:Program} {t:TypeId} (hu:P.underlying t=some .bool) (d:Nat) (a b:Bool):srun P (Op.equalIn (d+1) t (.bool a) (.bool b))=some (a == b):=by
 rw [Op.equalIn]
 rw [srun_bind (srun_under hu)]
 rfl
theorem eq_nil {P:Program} {t e:TypeId} (hu:P.underlying t=some (.slice e)) (d l c l' c':Nat):srun P (Op.equalIn (d+1) t (.slice none l c) (.slice none l' c'))=some true:=by
 rw [Op.equalIn]
 rw [srun_bind (srun_under hu)]
 rfl
section
variable {ν : Nat -> Nat} {T : TS} {B : BX} {H H0 : KH} {M : Tm} {h h0 : Hp}
theorem bin_any {E:Env} (hE:EnvT E) {o:Oper} {op:BinOp} {t t2:TypeId} {x y:Operand} {K:SV->Prop} (R:Rl ν T B H M h) (ho:o.op = .binOp op t x y t2) (hw:binS E op t (opW T x) (opW T y) K) :
 ∃ s v,K s/\(∀ ν,den ν s=v)/\∀ call nm,xop E call nm o M h=some (v,h):=by
 cases hx:opW T x with
 | none=>rw [hx] at hw; unfold binS at hw; exact hw.elim
 | some p =>
   cases hy:opW T y with
   | none=>rw [hx,hy] at hw; unfold binS at hw; split at hw<;>simp_all
   | some q =>
     rw [hx,hy] at hw
     have hx':=R.opW hx
     have hy':=R.opW hy
     unfold binS at hw
     split at hw
     .rename_i k m l n e1 e2
      cases e1; cases e2
      cases hk:kindB k l<;>rw [hk] at hw
      .exact sh_bin ho hx' hy' hk hw
      .have:=kindB_eq hk
       subst this
       exact int_bin ho hx' hy' hw
     .rename_i a b e1 e2
      cases e1; cases e2
      cases hk:isKind E t 9<;>rw [hk] at hw
      .exact hw.elim
      .obtain ⟨d,hu,hd,_⟩:=isKind_spec hE hk
       rw [kind_bool hd] at hu
       have he:=eq_bool hu 9999 a b
       have go:∀ r:Bool,fastB op (.bool a) (.bool b)=none->srun E.P (binOp op t (.bool a) (.bool b))=some (.bool r)->∀ call nm,xop E call nm o M h=some (.bool r,h) :=
        fun r h1 h2=>plain_bin ho hx' hy' rfl rfl rfl h1 h2 (by simp)
       simp only [cond_true] at hw
       split at hw
       .exact ⟨_,_,hw,fun _=>rfl,go _ rfl (Eq.trans (srun_bind (a:=(a == b)) he) rfl)⟩
       .exact ⟨_,_,hw,fun _=>rfl,go _ rfl (Eq.trans (srun_bind (a:=(a == b)) he) rfl)⟩
       .exact hw.elim
     .rename_i a b e1 e2
      cases e1; cases e2
      have go:∀ v:Value,isPlain v=true->fastB op (.string a) (.string b)=none->binOp op t (.string a) (.string b) = .pure v->∀ call nm,xop E call nm o M h=some (v,h) :=
       fun v hv h1 h2=>plain_bin ho hx' hy' rfl rfl hv h1 (by rw [h2]; rfl) (by simp)
      split at hw
      .exact ⟨_,_,hw,fun _=>rfl,go _ rfl rfl rfl⟩
      .exact ⟨_,_,hw,fun _=>rfl,go _ rfl rfl rfl⟩
      .exact ⟨_,_,hw,fun _=>rfl,go _ rfl rfl rfl⟩
      .exact ⟨_,_,hw,fun _=>rfl,go _ rfl rfl rfl⟩
      .exact ⟨_,_,hw,fun _=>rfl,go _ rfl rfl rfl⟩
      .exact ⟨_,_,hw,fun _=>rfl,go _ rfl rfl rfl⟩
      .refine ⟨_,_,hw.2,fun _=>rfl,go _ rfl rfl ?_⟩
       show Op.stringOp .add a b=_
       have hn:¬ (((a.size+b.size:Nat):Int) > IntKind.i64.max):=by
        have h1:IntKind.i64.max=9223372036854775807:=by decide
        rw [h1]
        have:=hw.1
        omega
       simp only [Op.stringOp]
       rw [if_neg hn]
       rfl
      .exact hw.elim
     .rename_i a l c l' c' e1 e2
      cases e1; cases e2
      cases hk:isKind E t 1<;>rw [hk] at hw
      .exact hw.elim
      .obtain ⟨d,hu,hd,ti,hti,hkk⟩:=isKind_spec hE hk
       rw [kind_slice hd] at hu
       have fin:∀ (r:Bool) (f:Bool->Bool),(op = .eql/\f=id\/op = .neq/\f=fun b=>!b)->r=f a.isNone->∀ call nm,xop E call nm o M h=some (.bool r,h):=by
        intro r f hop hr
        cases a with
        | none =>
          have he:=eq_nil hu 9999 l c l' c'
          rcases hop with ⟨rfl,rfl⟩ | ⟨rfl,rfl⟩
          .subst hr
           exact plain_bin ho hx' hy' rfl rfl rfl rfl (Eq.trans (srun_bind (a:=true) he) rfl) (by simp)
          .subst hr
           exact plain_bin ho hx' hy' rfl rfl rfl rfl (Eq.trans (srun_bind (a:=true) he) rfl) (by simp)
        | some ad =>
          intro call nm
          have hpl:(plainA (.slice (some ad) l c)&&plainA (.slice none l' c'))=false:=rfl
          have hnk:nilKind ti.kind (.slice (some ad) l c)=true:=by rw [hkk]; rfl
          rcases hop with ⟨rfl,rfl⟩ | ⟨rfl,rfl⟩
          .subst hr
           simp only [xop,xopR,ho,xBin,hx',hy',fastB,xBinEq,hpl,cond_false,hti,ob,hnk,cond_true,nilEq]
           rfl
          .subst hr
           simp only [xop,xopR,ho,xBin,hx',hy',fastB,xBinEq,hpl,cond_false,hti,ob,hnk,cond_true,nilEq]
           rfl
       simp only [cond_true] at hw
       split at hw
       .exact ⟨_,_,hw,fun _=>rfl,fin _ id (.inl ⟨rfl,rfl⟩) rfl⟩
       .exact ⟨_,_,hw,fun _=>rfl,fin _ (fun b=>!b) (.inr ⟨rfl,rfl⟩) rfl⟩
       .exact hw.elim
     .rename_i xs ys e1 e2
      cases e1; cases e2
      cases hk:arrK E t xs.toList.length<;>rw [hk] at hw
      .cases hk2:strK E.P t xs.toList<;>rw [hk2] at hw
       .cases hk3:arrC E t xs.toList<;>rw [hk3] at hw
        .exact hw.elim
        simp only [cond_true,cond_false] at hw
        unfold eqArr at hw
        split at hw
        .rename_i r hr
         obtain ⟨p1,p2⟩:=eqCs_plain hr
         have hq:=fun op=>arrC_run (op:=op) (x:=x) (y:=y) hE hk3 hr
         split at hw
         .exact ⟨_,_,hw,fun _=>rfl,plain_arr ho hx' hy' p1 p2 rfl (hq _).2 (Eq.trans (srun_bind (a:=r) (hq .eql).1) rfl)⟩
         .exact ⟨_,_,hw,fun _=>rfl,plain_arr ho hx' hy' p1 p2 rfl (hq _).2 (Eq.trans (srun_bind (a:=r) (hq .neq).1) rfl)⟩
         .exact hw.elim
        .exact hw.elim
       .simp only [cond_true,cond_false] at hw
        unfold eqArr at hw
        split at hw
        .rename_i r hr
         obtain ⟨p1,p2⟩:=eqCs_plain hr
         have hq:=fun op=>strK_run (op:=op) (x:=x) (y:=y) hk2 hr
         split at hw
         .exact ⟨_,_,hw,fun _=>rfl,plain_arr ho hx' hy' p1 p2 rfl (hq _).2 (Eq.trans (srun_bind (a:=r) (hq .eql).1) rfl)⟩
         .exact ⟨_,_,hw,fun _=>rfl,plain_arr ho hx' hy' p1 p2 rfl (hq _).2 (Eq.trans (srun_bind (a:=r) (hq .neq).1) rfl)⟩
         .exact hw.elim
        .exact hw.elim
      .obtain ⟨e,k,i,hu,he,hi,hs⟩:=arrK_spec hE hk
       simp only [cond_true] at hw
       unfold eqArr at hw
       split at hw
       .rename_i r hr
        obtain ⟨p1,p2⟩:=eqInts_plain hr
        have hq:srun E.P (Op.equal t (.agg xs) (.agg ys))=some r:=eq_arr hu he hi hs 9998 rfl hr
        have hg:=fun op=>guard_arr (op:=op) (x:=x) (y:=y) hu he hi hs rfl hr
        split at hw
        .exact ⟨_,_,hw,fun _=>rfl,plain_arr ho hx' hy' p1 p2 rfl (hg _) (Eq.trans (srun_bind (a:=r) hq) rfl)⟩
        .exact ⟨_,_,hw,fun _=>rfl,plain_arr ho hx' hy' p1 p2 rfl (hg _) (Eq.trans (srun_bind (a:=r) hq) rfl)⟩
        .exact hw.elim
       .exact hw.elim
     .exact hw.elim
structure Done (E:Env) (H0:KH) (h0:Hp) (o:Oper) (nm:Nat) (ν:Nat->Nat) (B:BX) (H:KH) (M:Tm) (h:Hp) (K:TS->SV->BX->KH->Prop) (s:SV) (T':TS) (B':BX) (H':KH) (ν':Nat->Nat) (h':Hp):Prop where
 run:∃ n,∀ m,n<=m->xop E (callA E (ev E m)) nm o M h=some (den ν' s,h')
 rl:Rl ν' T' B' H' M h'
 fr:Fr H0 h0 ν' B' H' h'
 post:K T' s B' H'
 boxes:∀ b cs,tget B' b=some cs->(ν' b=ν b/\∃ cs0,tget B b=some cs0)\/(ν' b=nm/\o.dst=some b)
 quiet:silB o.op=true\/allB o.op=true->∀ k,H' k≠none->H k≠none\/(k=nm/\allB o.op=true/\nameOf s=some nm)
 nu:allB o.op=false->ν'=ν
 xt:Xt ν B H h nm H' h'
theorem Done.same {E:Env} {o:Oper} {nm:Nat} {K:TS->SV->BX->KH->Prop} (R:Rl ν T B H M h) (F:Fr H0 h0 ν B H h) {s:SV} (hk:K T s B H) (hx:∀ m,xop E (callA E (ev E m)) nm o M h=some (den ν s,h)) :
 ∃ s T' B' H' ν' h',Done E H0 h0 o nm ν B H M h K s T' B' H' ν' h' :=
 ⟨s,T,B,H,ν,h,⟨0,fun m _=>hx m⟩,R,F,hk,fun b cs q=>.inl ⟨rfl,cs,q⟩,fun _ k q=>.inl q,fun _=>rfl,Xt.refl nm⟩
theorem Done.alloc {E:Env} {o:Oper} {nm:Nat} {K:TS->SV->BX->KH->Prop} {e:Ent} (R:Rl ν T B H M h) (F:Fr H0 h0 ν B H h) (hf:tget h.m nm=none) (hnb:∀ b cs,tget B b=some cs->ν b≠nm) (h0n:h0.nxt<=nm) {s:SV} (hk:K T s B (H.new nm e))
 (hx:∀ m,xop E (callA E (ev E m)) nm o M h=some (den ν s,halloc h nm e)) (ha:allB o.op=true) (hs:nameOf s=some nm):∃ s T' B' H' ν' h',Done E H0 h0 o nm ν B H M h K s T' B' H' ν' h':=by
 refine ⟨s,T,B,_,ν,_,⟨0,fun m _=>hx m⟩,R.alloc hf hnb,F.alloc h0n,hk,fun b cs q=>.inl ⟨rfl,cs,q⟩,fun _ k q=>?_,fun _=>rfl,Xt.alloc⟩
 simp only [KH.new] at q
 by_cases e1:k=nm
 .exact .inr ⟨e1,ha,hs⟩
 .rw [if_neg e1] at q; exact .inl q
theorem Done.box {E:Env} {o:Oper} {nm d:Nat} {K:TS->SV->BX->KH->Prop} {cs:List Value} (R:Rl ν T B H M h) (F:Fr H0 h0 ν B H h) (hf:tget h.m nm=none) (hHn:H nm=none) (hnb:∀ b cs,tget B b=some cs->ν b≠nm) (h0n:h0.nxt<=nm)
 (ha:allB o.op=true) (hd:o.dst=some d) (hk:K (purge d T) (.r d 0) (tset B d (some cs)) H) (hx:∀ m,xop E (callA E (ev E m)) nm o M h=some (newPtr nm,halloc h nm (mkEnt cs 0))):∃ s T' B' H' ν' h',Done E H0 h0 o nm ν B H M h K s T' B' H' ν' h':=by
 refine ⟨.r d 0,_,_,H,_,_,⟨0,fun m _=>?_⟩,R.newBox hf hHn hnb,F.newBox h0n,hk,fun b cs' q=>?_,fun _ k q=>.inl q,fun e=>(by rw [ha] at e; cases e),?_⟩
 .rw [hx m]
  simp only [den,if_true,newPtr]
 .rw [tget_tset] at q
  by_cases e:d=b
  .subst e; exact .inr ⟨by simp,hd⟩
  .rw [if_neg e] at q
   exact .inl ⟨by simp [Ne.symm e],cs',q⟩
 .refine ⟨by simp only [halloc]; omega,fun k q=>.inl q,fun k _ _ h2 _=>?_⟩
  simp only [halloc]
  rw [tget_tset_ne _ _ _ _ (Ne.symm h2)]
theorem isLoc_some {W:WE} {dst:Option Tmp} {d:Nat} (h:isLoc W dst=some d):dst=some d:=by
 unfold isLoc at h
 cases dst with
 | none=>cases h
 | some x =>
   simp only at h
   cases hm:memN x W.loc<;>rw [hm] at h<;>cases h
   rfl
theorem sub_eq_one {cs:List Value} {off:Nat} {v:Value} (h:cs[off]? = some v):(cs.drop off).take 1=[v]:=by
 have hl:off<cs.length:=by
  rcases Nat.lt_or_ge off cs.length with k | k
  .exact k
  .rw [List.getElem?_eq_none k] at h; cases h
 rw [List.getElem?_eq_getElem hl] at h
 cases h
 rw [List.drop_eq_getElem_cons hl]
 rfl
theorem zero_plain {E:Env} (hE:EnvT E) {t:TypeId} {ei:TI} {z:Value} (h:tget E.tt t=some ei) (hz:ei.zero=[z]):isPlain z=true:=by
 obtain ⟨i,d,z',fl,h1,h2,h3,h4,h5,rfl⟩:=ti_spec (hE _ _ h)
 simp only at hz
 rw [hz] at h5
 simp only [allPlain,Bool.and_true] at h5
 exact h5
theorem plainA_of {z:Value} (h:isPlain z=true):plainA z=true:=by
 cases z<;>first | exact h | cases h
theorem exSh_tup {z:Value} {K:Value->Prop} (hz:isPlain z=true) (h:exSh (shOf z) K):∃ v,isTup v=false/\K v:=by
 cases z<;>simp only [shOf,exSh] at h<;>first
  | (obtain ⟨x,h⟩:=h; exact ⟨_,rfl,h⟩)
  | (obtain ⟨x,y,h⟩:=h; exact ⟨_,rfl,h⟩)
  | (obtain ⟨x,y,w,h⟩:=h; exact ⟨_,rfl,h⟩)
  | (exact ⟨_,rfl,h⟩)
  | (cases hz; done)
theorem allPlain_mem:∀ {l:List Value} {v:Value},allPlain l=true->v∈l->isPlain v=true
 | x :: l,v,h,hv=>by
   simp only [allPlain,Bool.and_eq_true] at h
   rcases List.mem_cons.1 hv with rfl | hv
   .exact h.1
   .exact allPlain_mem h.2 hv
theorem wOp_sound {W:WE} (hE:EnvT W.E) {nmP:(Nat->Prop)->Prop} {o:Oper} {K:TS->SV->BX->KH->Prop} {nm:Nat} (hw:wOp W nmP o T B H K) (R:Rl ν T B H M h) (F:Fr H0 h0 ν B H h)
 (hn:∀ k:Nat->Prop,nmP k->k nm) (hfr:silB o.op=false->tget h.m nm=none/\H nm=none/\(∀ b cs,tget B b=some cs->ν b≠nm)/\h0.nxt<=nm) :
 ∃ s T' B' H' ν' h',Done W.E H0 h0 o nm ν B H M h K s T' B' H' ν' h':=by
 unfold wOp at hw
 split at hw
 .
  rename_i x ho
  split at hw
  .rename_i s hs
   exact Done.same R F hw fun m=>by simp only [xop,xopR,ho,xMove,R.op hs,ob]
  .exact hw.elim
 .
  rename_i x ho
  split at hw
  .rename_i s hs
   exact Done.same R F hw fun m=>by simp only [xop,xopR,ho,xMove,R.op hs,ob]
  .exact hw.elim
 .
  rename_i c x y ho
  have yes:opv M c=some (.bool true)->(match opS T x with | some s=>K T s B H | none=>False)->∃ s T' B' H' ν' h',Done W.E H0 h0 o nm ν B H M h K s T' B' H' ν' h':=by
   intro hc hk
   split at hk
   .rename_i s hs
    exact Done.same R F hk fun m=>by simp only [xop,xopR,ho,xPick,hc,R.op hs,ob]
   .exact hk.elim
  have no:opv M c=some (.bool false)->(match opS T y with | some s=>K T s B H | none=>False)->∃ s T' B' H' ν' h',Done W.E H0 h0 o nm ν B H M h K s T' B' H' ν' h':=by
   intro hc hk
   split at hk
   .rename_i s hs
    exact Done.same R F hk fun m=>by simp only [xop,xopR,ho,xPick,hc,R.op hs,ob]
   .exact hk.elim
  unfold askB at hw
  split at hw
  .rename_i hs; exact yes (R.op hs) hw
  .rename_i hs; exact no (R.op hs) hw
  .rename_i b hs
   cases b with
   | true=>exact yes (R.op hs) (hw.1 rfl)
   | false=>exact no (R.op hs) (hw.2 rfl)
  .exact hw.elim
 .
  rename_i t ho
  obtain ⟨hf,hHn,hnb,h0n⟩:=hfr (by rw [ho]; rfl)
  split at hw
  .exact hw.elim
  .rename_i ti hti
   split at hw
   .rename_i hbk
    have hx:∀ m,xop W.E (callA W.E (ev W.E m)) nm o M h=some (newPtr nm,halloc h nm (mkEnt ti.zero 0)):=fun m=>by simp only [xop,xopR,ho,xAlloc,hti,ob,allocE,hbk]
    split at hw
    .rename_i d hd
     exact Done.box R F hf hHn hnb h0n (by rw [ho]; rfl) (isLoc_some hd) hw hx
    .exact Done.alloc R F hf hnb h0n (hn _ hw) hx (by rw [ho]; rfl) rfl
   .rename_i e hbk
    cases hz:isBld0 ti.zero<;>simp only [hz,cond_true,cond_false] at hw
    have hx:∀ m,xop W.E (callA W.E (ev W.E m)) nm o M h=some (newPtr nm,halloc h nm (bldE t e nm none)):=fun m=>by simp only [xop,xopR,ho,xAlloc,hti,ob,allocE,hbk,hz,cond_true]; rfl
    exact Done.alloc R F hf hnb h0n (hn _ hw) hx (by rw [ho]; rfl) rfl
 .
  rename_i t x ho
  obtain ⟨hf,hHn,hnb,h0n⟩:=hfr (by rw [ho]; rfl)
  split at hw
  .exact hw.elim
  .rename_i v hv
   split at hw
   .exact hw.elim
   .rename_i cs hcs
    have hx:∀ m,xop W.E (callA W.E (ev W.E m)) nm o M h=some (newPtr nm,halloc h nm (mkEnt cs 0)):=fun m=>by simp only [xop,xopR,ho,xBox,R.opW hv,hcs,ob]
    split at hw
    .rename_i d hd
     exact Done.box R F hf hHn hnb h0n (by rw [ho]; rfl) (isLoc_some hd) hw hx
    .exact Done.alloc R F hf hnb h0n (hn _ hw) hx (by rw [ho]; rfl) rfl
 .
  rename_i t parts ho
  unfold wBuild at hw
  split at hw
  .exact hw.elim
  .rename_i ti hti
   cases hk:Nat.beq ti.kind 3<;>simp only [hk,cond_true,cond_false] at hw
   .cases hk2:Nat.beq ti.kind 2<;>simp only [hk2,cond_true,cond_false] at hw
    split at hw
    .exact hw.elim
    .rename_i ei hei
     split at hw
     .rename_i ps hps
      split at hw
      .rename_i cs hcs
       exact Done.same R F hw fun m=>by
        simp only [xop,xopR,ho,xBuild,hti,ob,hk,hk2,cond_true,cond_false,hei,R.parts hps,hcs,den]
      .exact hw.elim
     .exact hw.elim
   .split at hw
    .rename_i ps hps
     split at hw
     .rename_i cs hcs
      exact Done.same R F hw fun m=>by
       simp only [xop,xopR,ho,xBuild,hti,ob,hk,cond_true,R.parts hps,hcs,den]
     .exact hw.elim
    .exact hw.elim
 .
  rename_i t len parts ho
  obtain ⟨hf,hHn,hnb,h0n⟩:=hfr (by rw [ho]; rfl)
  unfold wBuildSlice at hw
  split at hw
  .exact hw.elim
  .rename_i ti hti
   split at hw
   .exact hw.elim
   .rename_i ei hei
    cases hq:(Nat.beq ti.kind 1&&Nat.ble (len*ei.size) 16777216&&Nat.ble len 16777216&&Nat.beq ei.zero.length ei.size)<;>simp only [hq,cond_true,cond_false] at hw
    split at hw
    .rename_i ps hps
     split at hw
     .rename_i cs hcs
      refine Done.alloc (s:=.v (.slice (some ⟨nm,0,none⟩) len len)) R F hf hnb h0n (hn _ hw) (fun m=>?_) (by rw [ho]; rfl) rfl
      simp only [xop,xopR,ho,xBuildSlice,hti,ob,hei,hq,cond_true,R.parts hps,hcs,den]
     .exact hw.elim
    .exact hw.elim
 .
  rename_i t a ho
  unfold wLoad at hw
  split at hw
  .rename_i b off ti hs hti
   split at hw
   .exact hw.elim
   .rename_i cs hcs
    cases hle:Nat.ble (off+ti.size) cs.length<;>simp only [hle,cond_true,cond_false] at hw
    have hop:=R.op hs
    cases ha:ti.agg<;>simp only [ha,cond_true,cond_false] at hw
    .split at hw
     .rename_i v hv
      have hlt:off+1<=cs.length:=by
       rcases Nat.lt_or_ge off cs.length with k | k
       .exact k
       .rw [List.getElem?_eq_none k] at hv; cases hv
      have hrd:=R.rdBox hcs hlt
      rw [sub_eq_one hv] at hrd
      refine Done.same R F hw fun m=>?_
      rw [den_toSV]
      simp only [xop,xopR,ho,xLoad,hop,den,hti,ob,ha,cond_false,hrd]
     .exact hw.elim
    .have hrd:=R.rdBox hcs (Nat.le_of_ble_eq_true hle)
     refine Done.same R F hw fun m=>?_
     simp only [xop,xopR,ho,xLoad,hop,den,hti,ob,ha,cond_true,hrd]
  .rename_i ad ti hs hti
   have hop:=R.op hs
   cases ha:ti.agg<;>simp only [ha,cond_true,cond_false] at hw
   .split at hw
    .obtain ⟨v,h1,h2⟩:=exSh_some hw
     have hrd:=R.ldv h1
     refine Done.same R F h2 fun m=>?_
     simp only [List.length_singleton] at hrd
     rw [den_toSV]
     simp only [xop,xopR,ho,xLoad,hop,den,hti,ob,ha,cond_false,hrd]
    .exact hw.elim
   .cases hz:Nat.beq ti.zero.length ti.size<;>simp only [hz,cond_true,cond_false] at hw
    obtain ⟨vs,h0',h1,h2⟩:=exShs_some hw
    have hrd:=R.ldv h1
    rw [h0',Nat.eq_of_beq_eq_true hz] at hrd
    refine Done.same R F h2 fun m=>?_
    simp only [xop,xopR,ho,xLoad,hop,den,hti,ob,ha,cond_true,hrd]
  .exact hw.elim
 .
  rename_i t a x ho
  unfold wStore at hw
  split at hw
  .rename_i b off v ti hs hv hti
   split at hw
   .rename_i cs vs hcs hvs
    cases hq:(Nat.beq vs.length ti.size&&Nat.ble (off+vs.length) cs.length)<;>simp only [hq,cond_true,cond_false] at hw
    simp only [Bool.and_eq_true] at hq
    obtain ⟨h',g1,g2,g3,g4⟩:=R.wrBox hcs (Nat.le_of_ble_eq_true hq.2)
    refine ⟨_,_,_,_,ν,h',⟨0,fun m _=>?_⟩,g4,F.wrBox hcs g2 g3,hw,fun b' cs' q=>?_,fun _ k q=>.inl q,fun _=>rfl,by omega,fun k q=>.inl q,fun k _ _ _ h3=>g3 k (Ne.symm (h3 b cs hcs))⟩
    .simp only [xop,xopR,ho,xStore,R.op hs,R.opW hv,den,hti,hvs,ob,hq.1,cond_true,g1]
    .rw [tget_tset] at q
     by_cases e:b=b'
     .subst e; exact .inl ⟨rfl,cs,hcs⟩
     .rw [if_neg e] at q; exact .inl ⟨rfl,cs',q⟩
   .exact hw.elim
  .rename_i ad v ti hs hv hti
   split at hw
   .rename_i vs hvs
    cases hq:Nat.beq vs.length ti.size<;>simp only [hq,cond_true,cond_false] at hw
    obtain ⟨⟨ws,hwl,hws⟩,hmay,hk⟩:=hw
    have hl:=ld_load hws
    rw [hwl] at hl
    obtain ⟨h',g1,g2,g3,g4,g5⟩:=R.store hl hmay
    refine ⟨_,_,_,_,ν,h',⟨0,fun m _=>?_⟩,g5,F.put g2 g3 g4,hk,fun b' cs' q=>.inl ⟨rfl,cs',q⟩,fun hq'=>?_,fun _=>rfl,Xt.put g2 g3 g4⟩
    .simp only [xop,xopR,ho,xStore,R.op hs,R.opW hv,den,hti,hvs,ob,hq,cond_true,g1]
    .rw [ho] at hq'; rcases hq' with q | q<;>cases q
   .exact hw.elim
  .exact hw.elim
 .
  rename_i x ho
  split at hw
  .rename_i b off hs
   have:=R.op hs
   exact Done.same R F hw fun m=>by simp only [xop,xopR,ho,xNil,this,den]
  .rename_i ad hs
   have:=R.op hs
   exact Done.same R F hw fun m=>by simp only [xop,xopR,ho,xNil,this,den]
  .exact hw.elim
 .
  rename_i op t x y t2 ho
  obtain ⟨s,v,h1,h2,h3⟩:=bin_any hE R ho hw
  exact Done.same R F h1 fun m=>by rw [h3,h2]
 .
  rename_i op t x ho
  split at hw
  .rename_i b hb
   exact Done.same R F hw fun m=>by simp only [xop,xopR,ho,xUn,R.opW hb,den]
  .rename_i k n hb
   have hxv:=R.opW hb
   refine Done.same R F hw fun m=>?_
   have hops:o.op.operands.toList=[x]:=by rw [ho]; rfl
   have hvs:opvs (opv M) o.op.operands.toList=some [.int k n]:=by rw [hops]; simp only [opvs,hxv]
   have hex:srun W.E.P (execOp (rho (opv M)) o)=some (.value (.int k (k.wrap (0-n)))):=by
    simp only [execOp,ho,rho,hxv,Option.getD_some]
    exact Eq.trans (srun_bind (a:=.int k (k.wrap (0-n))) rfl) rfl
   have hpl:xplain W.E o (opv M) h=some (.int k (k.wrap (0-n)),h):=by
    unfold xplain
    rw [hvs]
    simp only [allPlainA,plainA,isPlain,Bool.and_true,cond_true]
    rw [hex]
    simp only [isPlain,cond_true]
   simp only [xop,xopR,ho,xUn,hxv,den]
   exact hpl
  .exact hw.elim
 .
  rename_i src d x ho
  split at hw
  .rename_i k0 n ds k hx hs hd
   have hxv:=R.opW hx
   refine Done.same R F hw fun m=>?_
   have hops:o.op.operands.toList=[x]:=by rw [ho]; rfl
   have hvs:opvs (opv M) o.op.operands.toList=some [.int k0 n]:=by rw [hops]; simp only [opvs,hxv]
   have hc:srun W.E.P (convert src d (.int k0 n))=some (.int k (k.wrap n)):=by
    unfold convert
    rw [srun_bind (srun_under hs),srun_bind (srun_under hd)]
    cases ds<;>rfl
   have hex:srun W.E.P (execOp (rho (opv M)) o)=some (.value (.int k (k.wrap n))):=by
    simp only [execOp,ho,rho,hxv,Option.getD_some]
    exact Eq.trans (srun_bind (a:=.int k (k.wrap n)) hc) rfl
   have hpl:xplain W.E o (opv M) h=some (.int k (k.wrap n),h):=by
    unfold xplain
    rw [hvs]
    simp only [allPlainA,plainA,isPlain,Bool.and_true,cond_true]
    rw [hex]
    simp only [isPlain,cond_true]
   simp only [xop,xopR,ho,xConv,hxv,den]
   exact hpl
  .rename_i a len cap hx
   split at hw
   .rename_i ti si hti hsi
    split at hw
    .rename_i ei hei
     cases hq:(Nat.beq ti.kind 4&&Nat.beq si.kind 1&&Nat.beq ei.kind 6)<;>simp only [hq,cond_true,cond_false] at hw
     obtain ⟨cs,bs,q1,q2,q3⟩:=hw
     refine Done.same R F q3 fun m=>?_
     simp only [xop,xopR,ho,xConv,R.opW hx,hti,hsi,hei,ob,hq,cond_true,old_know R q1,q2,den]
    .exact hw.elim
   .exact hw.elim
  .exact hw.elim
 .
  rename_i fn first cap ho
  split at hw
  .rename_i g vs us h1 h2
   cases hq:(vs.all capOk&&us.all capOk)<;>simp only [hq,cond_true,cond_false] at hw
   refine Done.same R F hw fun m=>?_
   simp only [xop,xopR,ho,xMkF,R.opWs h1,R.opWs h2,hq,cond_true,den]
  .exact hw.elim
 .
  rename_i t l c ho
  obtain ⟨hf,hHn,hnb,h0n⟩:=hfr (by rw [ho]; rfl)
  split at hw
  .rename_i kn n kk k ti hl hc hti
   split at hw
   .rename_i ei hei
    cases hq:(Nat.beq ti.kind 1&&Nat.ble ei.bytes 1000000&&Nat.beq ei.zero.length ei.size)<;>simp only [hq,cond_true,cond_false] at hw
    obtain ⟨⟨q1,q2,q3⟩,hk⟩:=hw
    simp only [Bool.and_eq_true] at hq
    refine Done.alloc (s:=.v (.slice (some ⟨nm,0,none⟩) n.toNat k.toNat)) R F hf hnb h0n (hn _ hk) (fun m=>?_) (by rw [ho]; rfl) rfl
    have hb:(Nat.beq ti.kind 1&&decide (0<=n)&&decide (n<=k)&&decide (k<=1000000)&&Nat.ble ei.bytes 1000000&&Nat.beq ei.zero.length ei.size)=true:=by
     simp only [Bool.and_eq_true,decide_eq_true_eq]
     exact ⟨⟨⟨⟨⟨hq.1.1,q1⟩,q2⟩,q3⟩,hq.1.2⟩,hq.2⟩
    simp only [xop,xopR,ho,xMake,R.opW hl,R.opW hc,hti,ob,hei,hb,cond_true,den]
   .exact hw.elim
  .exact hw.elim
 .
  rename_i t x lo hi mx ho
  split at hw
  .rename_i a len cap ti lov hiv hx hti hlo hhi
   split at hw
   .rename_i ei hei
    cases hq:Nat.beq ti.kind 1<;>simp only [hq,cond_true,cond_false] at hw
    obtain ⟨a',l',c',h1,h2⟩:=hw
    refine Done.same R F h2 fun m=>?_
    have hm:optv (opv M) (none:Option Operand)=some none:=rfl
    simp only [xop,xopR,ho,xSlc,R.opW hx,hti,ob,hei,hq,cond_true,R.opWo hlo,R.opWo hhi,hm,slice_know R h1,den]
   .exact hw.elim
  .rename_i s ti lov hiv hx hti hlo hhi
   split at hw
   .rename_i l u hl hu' hu
    obtain ⟨⟨q0,q1,q2⟩,hk⟩:=hw
    refine Done.same R F hk fun m=>?_
    have hxv:=R.opW hx
    have hlv:=R.opWo hlo
    have hhv:=R.opWo hhi
    have hlp:∀ v,lov=some v->plainA v=true:=fun v e=>by subst e; cases v<;>simp only [intOf,reduceCtorEq] at hl; rfl
    have hhp:∀ v,hiv=some v->plainA v=true:=fun v e=>by subst e; cases v<;>simp only [intOf,reduceCtorEq] at hu'; rfl
    have hc:=slice_str hu hl hu' q0 q1 q2
    have hvs:∃ vs,opvs (opv M) o.op.operands.toList=some vs/\allPlainA vs=true/\lo.map (rho (opv M))=lov/\hi.map (rho (opv M))=hiv:=by
     cases lo with
     | none=>
       simp only [optv,Option.some.injEq] at hlv; subst hlv
       cases hi with
       | none =>
         simp only [optv,Option.some.injEq] at hhv; subst hhv
         exact ⟨[.string s],by rw [ho]; show opvs (opv M) [x]=_; simp only [opvs,hxv],rfl,rfl,rfl⟩
       | some y =>
         simp only [optv] at hhv
         split at hhv<;>simp only [Option.some.injEq,reduceCtorEq] at hhv
         rename_i v hv; subst hhv
         exact ⟨[.string s,v],by rw [ho]; show opvs (opv M) [x,y]=_; simp only [opvs,hxv,hv],by simp only [allPlainA,hhp _ rfl,Bool.and_true]; rfl,rfl,by simp only [Option.map,rho,hv,Option.getD_some]⟩
     | some z =>
       simp only [optv] at hlv
       split at hlv<;>simp only [Option.some.injEq,reduceCtorEq] at hlv
       rename_i v hv; subst hlv
       cases hi with
       | none =>
         simp only [optv,Option.some.injEq] at hhv; subst hhv
         exact ⟨[.string s,v],by rw [ho]; show opvs (opv M) [x,z]=_; simp only [opvs,hxv,hv],by simp only [allPlainA,hlp _ rfl,Bool.and_true]; rfl,by simp only [Option.map,rho,hv,Option.getD_some],rfl⟩
       | some y =>
         simp only [optv] at hhv
         split at hhv<;>simp only [Option.some.injEq,reduceCtorEq] at hhv
         rename_i v' hv'; subst hhv
         exact ⟨[.string s,v,v'],by rw [ho]; show opvs (opv M) [x,z,y]=_; simp only [opvs,hxv,hv,hv'],by simp only [allPlainA,hhp _ rfl,hlp _ rfl,Bool.and_true]; rfl,by simp only [Option.map,rho,hv,Option.getD_some],by simp only [Option.map,rho,hv',Option.getD_some]⟩
    obtain ⟨vs,hvs,hpl,hlm,hhm⟩:=hvs
    have hex:srun W.E.P (execOp (rho (opv M)) o)=some (.value (.string (strCut s l u))):=by
     have hrx:rho (opv M) x = .string s:=by simp only [rho,hxv,Option.getD_some]
     simp only [execOp,ho]
     rw [hlm,hhm,hrx,Option.map_none]
     exact Eq.trans (srun_bind (a:=.string (strCut s l u)) hc) rfl
    have hpl:xplain W.E o (opv M) h=some (.string (strCut s l u),h):=by
     unfold xplain
     rw [hvs]
     simp only [hpl,cond_true]
     rw [hex]
     simp only [isPlain,cond_true]
    simp only [xop,xopR,ho,xSlc,R.opW hx,den]
    exact hpl
   .exact hw.elim
  .rename_i ad ti hiv hx hti hlo hhi
   split at hw
   .rename_i ei u hei hu
    cases hq:(Nat.beq ti.kind 2&&Nat.blt ti.alen unkU)<;>simp only [hq,cond_true,cond_false] at hw
    obtain ⟨hsp,⟨q1,q2⟩,hk⟩:=hw
    simp only [Bool.and_eq_true] at hq
    refine Done.same R F hk fun m=>?_
    have hb1:(Nat.beq ti.kind 2&&ad.spot.isNone&&(none:Option Operand).isNone)=true:=by rw [hq.1,hsp]; rfl
    have hn:natOf ti.alen hiv=some u.toNat:=by
     cases hiv with
     | none=>simp only [intOf,Option.some.injEq] at hu; subst hu; simp only [natOf,Int.toNat_natCast]
     | some v =>
       cases v<;>simp only [intOf,reduceCtorEq,Option.some.injEq] at hu
       subst hu
       simp only [natOf,decide_eq_true q1,cond_true]
    have hb2:(Nat.ble 0 u.toNat&&Nat.ble u.toNat ti.alen&&Nat.blt ti.alen unkU)=true:=by
     rw [hq.2,Nat.ble_eq_true_of_le (by omega:u.toNat<=ti.alen),Nat.ble_eq_true_of_le (Nat.zero_le _)]; rfl
    have hn0:natOf 0 (none:Option Value)=some 0:=rfl
    simp only [xop,xopR,ho,xSlc,R.opW hx,hti,ob,hei,hb1,cond_true,R.opWo hlo,R.opWo hhi,hn0,hn,hb2,den,Nat.sub_zero,Nat.zero_mul,Nat.add_zero]
    congr 3
    cases hbq:Nat.beq ti.alen 0
    .rfl
    .cases ad; simp only at hsp; subst hsp; rfl
   .exact hw.elim
  .exact hw.elim
 .
  rename_i s x f ho
  unfold wField at hw
  split at hw
  .exact hw.elim
  .rename_i ti hti
   split at hw
   .exact hw.elim
   .rename_i fl hfl
    cases hq:(Nat.beq ti.kind 3&&!(Nat.beq fl.2 0))<;>simp only [hq,cond_true,cond_false] at hw
    split at hw
    .rename_i b off hs
     refine Done.same R F hw fun m=>?_
     have hop:=R.op hs
     have hb:(Nat.beq ti.kind 3&&!(Nat.beq fl.2 0)&&(⟨ν b,off,none⟩:Addr).spot.isNone)=true:=by rw [hq]; rfl
     simp only [xop,xopR,ho,xField,hop,den,hti,ob,hfl,hb,cond_true]
    .rename_i ad hs
     refine Done.same R F hw.2 fun m=>?_
     have hop:=R.op hs
     have hb:(Nat.beq ti.kind 3&&!(Nat.beq fl.2 0)&&ad.spot.isNone)=true:=by rw [hq,hw.1]; rfl
     simp only [xop,xopR,ho,xField,hop,den,hti,ob,hfl,hb,cond_true]
    .exact hw.elim
 .
  rename_i t x ix ho
  unfold wIdx at hw
  split at hw
  .rename_i a len cap k i ti hx hi hti
   split at hw
   .rename_i ei hei
    cases hq:Nat.beq ti.kind 1<;>simp only [hq,cond_true,cond_false] at hw
    obtain ⟨⟨q1,q2⟩,b,off,rfl,hk⟩:=hw
    refine Done.same R F hk fun m=>?_
    have hb:(Nat.beq ti.kind 1&&decide (0<=i)&&decide (i<(len:Int))&&(⟨b,off,none⟩:Addr).spot.isNone)=true:=by
     simp only [Bool.and_eq_true,decide_eq_true_eq]
     exact ⟨⟨⟨hq,q1⟩,q2⟩,rfl⟩
    simp only [xop,xopR,ho,xIdx,R.opW hx,R.opW hi,hti,ob,hei,hb,cond_true,den]
   .exact hw.elim
  .rename_i ad k i ti hx hi hti
   split at hw
   .rename_i ei hei
    cases hq:Nat.beq ti.kind 2<;>simp only [hq,cond_true,cond_false] at hw
    obtain ⟨⟨q1,q2⟩,hsp,hk⟩:=hw
    refine Done.same R F hk fun m=>?_
    have hb:(Nat.beq ti.kind 2&&decide (0<=i)&&decide (i<(ti.alen:Int))&&ad.spot.isNone)=true:=by
     simp only [Bool.and_eq_true,decide_eq_true_eq]
     exact ⟨⟨⟨hq,q1⟩,q2⟩,by rw [hsp]; rfl⟩
    simp only [xop,xopR,ho,xIdx,R.opW hx,R.opW hi,hti,ob,hei,hb,cond_true,den]
   .exact hw.elim
  .exact hw.elim
 .
  rename_i t x ix ho
  split at hw
  .rename_i s k i hx hi hu
   obtain ⟨⟨q1,q2⟩,hk⟩:=hw
   refine Done.same R F hk fun m=>?_
   have hxv:=R.opW hx
   have hiv:=R.opW hi
   have hops:o.op.operands.toList=[x,ix]:=by rw [ho]; rfl
   have hvs:opvs (opv M) o.op.operands.toList=some [.string s,.int k i]:=by rw [hops]; simp only [opvs,hxv,hiv]
   have hlt:i.toNat<s.size:=by omega
   have hg:s[i.toNat]? = some (s[i.toNat]'hlt):=by simp [hlt]
   have hba:byteAt s i.toNat=((s[i.toNat]'hlt).toNat:Int):=by
    unfold byteAt
    have hl:i.toNat<s.data.toList.length:=hlt
    rw [List.getElem?_eq_getElem hl]
    rfl
   have hc:srun W.E.P (Instr.index t (.string s) (.int k i))=some (.int .u8 (byteAt s i.toNat)):=by
    unfold Instr.index
    rw [srun_bind (a:=(k,i)) rfl,srun_bind (srun_under hu)]
    simp only [if_pos q1,hg,hba]
    rfl
   have hex:srun W.E.P (execOp (rho (opv M)) o)=some (.value (.int .u8 (byteAt s i.toNat))):=by
    simp only [execOp,ho,rho,hxv,hiv,Option.getD_some]
    exact Eq.trans (srun_bind (a:=.int .u8 (byteAt s i.toNat)) hc) rfl
   have hpl:xplain W.E o (opv M) h=some (.int .u8 (byteAt s i.toNat),h):=by
    unfold xplain
    rw [hvs]
    simp only [allPlainA,plainA,isPlain,Bool.and_true,cond_true]
    rw [hex]
    simp only [isPlain,cond_true]
   simp only [xop,xopR,ho,den]
   exact hpl
  .rename_i cs k i n e hx hi hu
   split at hw
   .rename_i ei hei
    split at hw
    .rename_i z hz
     cases hq:(Nat.beq ei.size 1&&!ei.agg&&allPlain cs.toList)<;>simp only [hq,cond_true,cond_false] at hw
     obtain ⟨⟨q1,q2⟩,hw⟩:=hw
     simp only [Bool.and_eq_true,Bool.not_eq_true'] at hq
     obtain ⟨v,hv,hk⟩:=exSh_some hw
     have hxv:=R.opW hx
     have hiv:=R.opW hi
     have hops:o.op.operands.toList=[x,ix]:=by rw [ho]; rfl
     have hvs:opvs (opv M) o.op.operands.toList=some [.agg cs,.int k i]:=by rw [hops]; simp only [opvs,hxv,hiv]
     obtain ⟨i',d',z',fl',g1',g2',g3',g4',g5',rfl⟩:=ti_spec (hE _ _ hei)
     have hs:i'.size=1:=Nat.eq_of_beq_eq_true hq.1.1
     have hag:aggB d'=false:=hq.1.2
     have hpv:isPlain v=true:=allPlain_mem hq.2 (List.mem_of_getElem? hv.h)
     have hc:srun W.E.P (Instr.index t (.agg cs) (.int k i))=some v:=by
      unfold Instr.index
      rw [srun_bind (a:=(k,i)) rfl,srun_bind (srun_under hu)]
      simp only [if_pos (⟨q1,q2⟩:0<=i/\i<(n:Int))]
      rw [srun_bind (srun_info g1'),hs]
      refine partC ?_ ?_
      .rw [isAgg,srun_bind (srun_under g2')]
       cases d'<;>first | rfl | cases hag
      .rw [Nat.mul_one]
       simpa using hv.h
     have hex:srun W.E.P (execOp (rho (opv M)) o)=some (.value v):=by
      simp only [execOp,ho,rho,hxv,hiv,Option.getD_some]
      exact Eq.trans (srun_bind (a:=v) hc) rfl
     refine Done.same R F hk fun m=>?_
     have hpa:allPlainA [.agg cs,.int k i]=true:=by
      show (allPlain cs.toList&&(isPlain (.int k i)&&true))=true
      rw [hq.2]; rfl
     have hpl:xplain W.E o (opv M) h=some (v,h):=by
      unfold xplain
      rw [hvs]
      simp only [hpa,cond_true]
      rw [hex]
      simp only [hpv,cond_true]
     rw [den_toSV]
     simp only [xop,xopR,ho]
     exact hpl
    .exact hw.elim
   .exact hw.elim
  .exact hw.elim
 .
  rename_i t i ho
  split at hw
  .rename_i vs hv
   split at hw
   .rename_i v hvi
    refine Done.same R F hw fun m=>?_
    simp only [xop,xopR,ho,xExtract,R.opW hv,hvi,ob,den_toSV]
   .exact hw.elim
  .exact hw.elim
 .
  rename_i t x f ho
  split at hw
  .rename_i cs hv
   split at hw
   .rename_i v hvi
    refine Done.same R F hw fun m=>?_
    simp only [xop,xopR,ho,xFldV,R.opW hv,hvi,ob,den_toSV]
   .exact hw.elim
  .exact hw.elim
 .
  rename_i t r ho
  split at hw
  .obtain ⟨hf,hHn,hnb,h0n⟩:=hfr (by rw [ho]; rfl)
   have hx:∀ m,xop W.E (callA W.E (ev W.E m)) nm o M h=some (.map (some nm),halloc h nm (mpE [])):=fun m=>by simp only [xop,xopR,ho,xMkMap]; rfl
   refine ⟨.v (.map (some nm)),T,B,_,ν,_,⟨0,fun m _=>hx m⟩,R.alloc hf hnb,F.alloc h0n,hn _ hw,fun b cs q=>.inl ⟨rfl,cs,q⟩,fun q=>?_,fun _=>rfl,Xt.alloc⟩
   rw [ho] at q; rcases q with q | q<;>cases q
  .exact hw.elim
 .
  rename_i t x ix ok ho
  unfold wLook at hw
  split at hw
  .rename_i n k mt hx hk hmt
   split at hw
   .rename_i ei hei
    cases hq:(Nat.beq mt.kind 10&&!ei.agg)<;>simp only [hq,cond_true,cond_false] at hw
    have hk10:Nat.beq mt.kind 10=true:=by rw [Bool.and_eq_true] at hq; exact hq.1
    split at hw
    .rename_i z hz
     obtain ⟨es,hm,hw⟩:=hw
     have hg:getMp h n=some es:=by
      unfold getMp
      simp only [R.know _ _ hm.h,mpE]
      rfl
     have hzp:=zero_plain hE hei hz
     have fin:∀ v,xLookM W.E h mt es k ok=some (luRes ok v true,h)\/xLookM W.E h mt es k ok=some (luRes ok v false,h)->∀ b,xLookM W.E h mt es k ok=some (luRes ok v b,h)->(bif ok then K T (.v (.tuple #[v,.bool b])) B H else K T (toSV v) B H)->∃ s T' B' H' ν' h',Done W.E H0 h0 o nm ν B H M h K s T' B' H' ν' h':=by
      intro v _ b he hk'
      have hrun:∀ m,xop W.E (callA W.E (ev W.E m)) nm o M h=some (luRes ok v b,h):=fun m=>by
       simp only [xop,xopR,ho,xLook,R.opW hx,R.opW hk,hmt,ob,hk10,cond_true,hg,he]
      cases ok
      .exact Done.same R F hk' fun m=>by rw [hrun m,den_toSV]; rfl
      .exact Done.same R F hk' fun m=>by rw [hrun m]; rfl
     rcases hw with ⟨g1,g2⟩ | hw
     .have he:xLookM W.E h mt es k ok=some (luRes ok z false,h):=by
       unfold xLookM
       simp only [g1.good,cond_true,g1.find,g1.zero,hzp,plainA_of hzp]
      exact fin z (.inr he) false he g2
     .obtain ⟨v,hnt,g1,g2⟩:=exSh_tup (z:=z) hzp hw
      obtain ⟨i,hf⟩:=g1.find
      have he:xLookM W.E h mt es k ok=some (luRes ok v true,h):=by
       unfold xLookM
       simp only [g1.good,cond_true,hf,hnt,cond_false]
      exact fin v (.inl he) true he g2
    .exact hw.elim
   .exact hw.elim
  .exact hw.elim
 .
  rename_i t mm k x ho
  unfold wUpd at hw
  split at hw
  .rename_i n kv v mt hm hk hv hmt
   cases hq:(Nat.beq mt.kind 10&&!(isTup v))<;>simp only [hq,cond_true,cond_false] at hw
   obtain ⟨es,es',h1,h2,h3⟩:=hw
   have he:=R.know _ _ h1.h
   have hg:getMp h n=some es:=by
    unfold getMp
    simp only [he,mpE]
    rfl
   have hqq:(Nat.beq mt.kind 10&&!(isTup v)&&keyGood W.E.P false mt.alen kv)=true:=by rw [hq,h2.good]; rfl
   have hrun:∀ m,xop W.E (callA W.E (ev W.E m)) nm o M h=some (undefV,⟨tset h.m n (some (mpE es')),h.nxt⟩):=fun m=>by
    simp only [xop,xopR,ho,xUpd,R.opW hm,R.opW hk,R.opW hv,hmt,ob,hqq,cond_true,hg]
    rcases h2.is with ⟨g1,g2⟩ | ⟨i,u,p,g1,g2,g3,g4⟩
    .simp only [g1,g2,mpE]
    .simp only [g1,g2,g3,cond_true,g4,mpE]
   have hlt:n<h.nxt:=by
    rcases Nat.lt_or_ge n h.nxt with q | q
    .exact q
    .rw [R.wf _ q] at he; cases he
   refine ⟨.v undefV,T,B,_,ν,_,⟨0,fun m _=>hrun m⟩,?_,?_,h3,fun b cs q=>.inl ⟨rfl,cs,q⟩,fun q=>?_,fun _=>rfl,?_⟩
   .refine ⟨R.tmp,fun b cs q=>?_,R.lt,fun b cs q=>?_,R.inj,fun k e' q=>?_,fun k hk=>?_⟩
    .obtain ⟨e',g1,g2⟩:=R.box b cs q
     refine ⟨e',?_,g2⟩
     rw [tget_tset_ne _ _ _ _ (fun e1=>by have:=R.apart b cs q; rw [<- e1,h1.h] at this; cases this)]
     exact g1
    .simp only [KH.new]
     rw [if_neg (fun e1=>by have:=R.apart b cs q; rw [e1,h1.h] at this; cases this)]
     exact R.apart b cs q
    .simp only [KH.new] at q
     by_cases hk:k=n
     .rw [if_pos hk] at q
      rw [hk,tget_tset_same,q]
     .rw [if_neg hk] at q
      rw [tget_tset_ne _ _ _ _ (Ne.symm hk)]
      exact R.know k e' q
    .have hk':h.nxt<=k:=hk
     show tget (tset h.m n _) k=none
     rw [tget_tset_ne _ _ _ _ (by omega)]
     exact R.wf k hk'
   .refine ⟨F.nxt,fun k g1 g2=>?_,fun k q=>?_,F.box⟩
    .show tget (tset h.m n _) k=_
     rw [tget_tset_ne _ _ _ _ (fun e=>by
      subst e
      rcases F.new _ (by rw [h1.h]; simp:H n≠none) with q | q
      .exact q g2
      .omega)]
     exact F.keep k g1 g2
    .simp only [KH.new] at q
     by_cases e:k=n
     .subst e; exact F.new _ (by rw [h1.h]; simp)
     .rw [if_neg e] at q; exact F.new k q
   .rw [ho] at q; rcases q with q | q<;>cases q
   .refine ⟨Nat.le_refl _,fun k q=>?_,fun k _ g1 _ _=>?_⟩
    .simp only [KH.new] at q
     by_cases e:k=n
     .subst e; exact .inl (by rw [h1.h]; simp)
     .rw [if_neg e] at q; exact .inl q
    .show tget (tset h.m n _) k=_
     rw [tget_tset_ne _ _ _ _ (fun e=>by subst e; rw [h1.h] at g1; cases g1)]
  .exact hw.elim
 .
  rename_i c ho
  split at hw
  .rename_i f hc
   split at hw
   .rename_i g first cap vs hfv hvs
    obtain ⟨v,h',H',⟨n,hrun⟩,hQ,hwf,hknow,hnxt,hkeep,hnew⟩:=hw.run h R.wf R.know
    obtain ⟨s,hs1,hs2⟩:=wRes_some hQ
    refine ⟨s,T,B,H',ν,h',⟨n,fun m hm=>?_⟩,R.called hwf hknow hnxt hkeep hnew,F.called hnxt hkeep hnew,hs1,fun b cs q=>.inl ⟨rfl,cs,q⟩,fun hq=>?_,fun _=>rfl,hnxt,fun k q=>(hnew k q).imp id .inr,fun k h1 h2 _ _=>hkeep k h1 h2⟩
    .have hlt:Nat.blt g unkU=true:=Nat.ble_eq_true_of_le hw.lt
     simp only [xop,xopR,ho,xCall,hc,xCallV,R.opW hfv,R.opWs hvs,hrun m hm,hs2,hlt,cond_true]
    .rw [ho] at hq; simp only [silB,allB,hc] at hq; rcases hq with q | q<;>cases q
   .rename_i l first cap vs hfv hvs
    obtain ⟨v,h',H',⟨n,hrun⟩,hQ,hwf,hknow,hnxt,hkeep,hnew⟩:=hw.run h R.wf R.know
    obtain ⟨s,hs1,hs2⟩:=wRes_some hQ
    refine ⟨s,T,B,H',ν,h',⟨n,fun m hm=>?_⟩,R.called hwf hknow hnxt hkeep hnew,F.called hnxt hkeep hnew,hs1,fun b cs q=>.inl ⟨rfl,cs,q⟩,fun hq=>?_,fun _=>rfl,hnxt,fun k q=>(hnew k q).imp id .inr,fun k h1 h2 _ _=>hkeep k h1 h2⟩
    .simp only [xop,xopR,ho,xCall,hc,xCallV,R.opW hfv,R.opWs hvs,hrun m hm,hs2]
    .rw [ho] at hq; simp only [silB,allB,hc] at hq; rcases hq with q | q<;>cases q
   .exact hw.elim
  .rename_i b hc
   split at hw
   .rename_i vs hvs
    have hv:=R.opWs hvs
    unfold wBuiltin at hw
    split at hw
    .
     rename_i a n c'
     split at hw
     .rename_i t htys
      split at hw
      .rename_i ti hti
       cases hq:Nat.beq ti.kind 1<;>simp only [hq,cond_true,cond_false] at hw
       refine Done.same R F hw fun m=>?_
       simp only [xop,xopR,ho,xCall,hc,xCallB,hv,xbuiltin,htys,hti,ob,hq,cond_true,den]
      .exact hw.elim
     .exact hw.elim
    .
     rename_i s
     split at hw
     .rename_i t htys
      split at hw
      .rename_i ti hti
       cases hq:Nat.beq ti.kind 4<;>simp only [hq,cond_true,cond_false] at hw
       refine Done.same R F hw fun m=>?_
       simp only [xop,xopR,ho,xCall,hc,xCallB,hv,xbuiltin,htys,hti,ob,hq,cond_true,den]
      .exact hw.elim
     .exact hw.elim
    .
     rename_i a n c'
     split at hw
     .rename_i t htys
      split at hw
      .rename_i ti hti
       cases hq:Nat.beq ti.kind 1<;>simp only [hq,cond_true,cond_false] at hw
       refine Done.same R F hw.2 fun m=>?_
       have hb:Nat.blt c' unkU=true:=Nat.ble_eq_true_of_le hw.1
       simp only [xop,xopR,ho,xCall,hc,xCallB,hv,xbuiltin,htys,hti,ob,hq,hb,Bool.and_self,cond_true,den]
      .exact hw.elim
     .exact hw.elim
    .
     rename_i k x l y
     refine Done.same R F hw fun m=>?_
     simp only [xop,xopR,ho,xCall,hc,xCallB,hv,xbuiltin,den]
     congr 3
     rw [iLt_eq]
     by_cases e:y<x
     .rw [decide_eq_true e,cond_true]; omega
     .rw [decide_eq_false e,cond_false]; omega
    .
     rename_i k x l y
     refine Done.same R F hw fun m=>?_
     simp only [xop,xopR,ho,xCall,hc,xCallB,hv,xbuiltin,den]
     congr 3
     rw [iLt_eq]
     by_cases e:x<y
     .rw [decide_eq_true e,cond_true]; omega
     .rw [decide_eq_false e,cond_false]; omega
    .
     rename_i a len cap x
     split at hw
     .rename_i t u htys
      split at hw
      .rename_i ti ui hti hui
       split at hw
       .rename_i ei hei
        cases hq:(Nat.beq ti.kind 1&&appK ui.kind x&&Nat.beq ei.zero.length ei.size)<;>simp only [hq,cond_true,cond_false] at hw
        obtain ⟨hf,hHn,hnb,h0n⟩:=hfr (by rw [ho]; simp only [silB,hc,plainB])
        obtain ⟨n,cs,q1,a',l',c',H',q2,q3⟩:=hn _ hw
        obtain ⟨h',g1,g2,g3,g4⟩:=append_k R F hf hnb h0n q2
        refine ⟨_,T,B,H',ν,h',⟨0,fun m _=>?_⟩,g2,g3,q3,fun b cs q=>.inl ⟨rfl,cs,q⟩,fun hq'=>?_,fun _=>rfl,g4⟩
        .simp only [xop,xopR,ho,xCall,hc,xCallB,hv,xbuiltin,htys,hti,ob,hei,hui,hq,cond_true,new_know R q1,g1,den]
        .rw [ho] at hq'; simp only [silB,allB,hc,plainB] at hq'; rcases hq' with q | q<;>cases q
       .exact hw.elim
      .exact hw.elim
     .exact hw.elim
    .exact hw.elim
   .exact hw.elim
  .rename_i r name hc
   split at hw
   .rename_i t x vs hfv hvs
    split at hw
    .rename_i ti g hti hm
     cases hq:(Nat.ble 1 ti.kind&&!(Nat.beq ti.kind 7))<;>simp only [hq,cond_true,cond_false] at hw
     obtain ⟨v,h',H',⟨n,hrun⟩,hQ,hwf,hknow,hnxt,hkeep,hnew⟩:=hw.run h R.wf R.know
     obtain ⟨s,hs1,hs2⟩:=wRes_some hQ
     refine ⟨s,T,B,H',ν,h',⟨n,fun m hm'=>?_⟩,R.called hwf hknow hnxt hkeep hnew,F.called hnxt hkeep hnew,hs1,fun b cs q=>.inl ⟨rfl,cs,q⟩,fun hq=>?_,fun _=>rfl,hnxt,fun k q=>(hnew k q).imp id .inr,fun k h1 h2 _ _=>hkeep k h1 h2⟩
     .have hlt:Nat.blt g unkU=true:=Nat.ble_eq_true_of_le hw.lt
      simp only [xop,xopR,ho,xCall,hc,xCallI,R.opW hfv,R.opWs hvs,hti,ob,hq,hm,hrun m hm',hs2,hlt,cond_true]
     .rw [ho] at hq; simp only [silB,allB,hc] at hq; rcases hq with q | q<;>cases q
    .exact hw.elim
   .exact hw.elim
 .
  rename_i t x ho
  split at hw
  .rename_i v ti hv hti
   cases hq:(ifaOk v&&Nat.ble 1 ti.kind)<;>simp only [hq,cond_true,cond_false] at hw
   refine Done.same R F hw fun m=>?_
   simp only [xop,xopR,ho,xMkI,R.opW hv,hti,ob,hq,cond_true,den]
  .exact hw.elim
 .exact hw.elim
end
end Go.Ew
