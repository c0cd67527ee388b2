import Derived.Test.YtibkijpnkmccpaaEvFast1
import Derived.Test.YtibkijpnkmccpaaEvDraw4
set_option linter.unusedVariables false
set_option linter.unusedSimpArgs false
namespace Go.Ev
open Go.Deep Go.RowKit
structure Cl where
 f0:CallC->Option Nat->FT->Hp->(FT->Hp->Prop)->(Nat->FT->Hp->Prop)->(FT->Hp->Prop)->Prop
def Cl.fn (X:Cl) (x0:CallC) (xr:Option Nat) (x1:FT) (x2:Hp) (x3:(FT->Hp->Prop)) (x4:(Nat->FT->Hp->Prop)) (x5:(FT->Hp->Prop)):Prop:=Cl.rec (motive:=fun _=>Prop) (fun f=>f x0 xr x1 x2 x3 x4 x5) X
theorem Cl.fn_mk (f:CallC->Option Nat->FT->Hp->(FT->Hp->Prop)->(Nat->FT->Hp->Prop)->(FT->Hp->Prop)->Prop) (x0:CallC) (xr:Option Nat) (x1:FT) (x2:Hp) (x3:(FT->Hp->Prop)) (x4:(Nat->FT->Hp->Prop)) (x5:(FT->Hp->Prop)):(Cl.mk f).fn x0 xr x1 x2 x3 x4 x5=f x0 xr x1 x2 x3 x4 x5:=rfl
def kX (o:Option (Exit × FT × Hp)) (kn:FT->Hp->Prop) (ke:Nat->FT->Hp->Prop) (kr:FT->Hp->Prop):Prop:=match o with
 | some (.normal,T,h)=>kn T h
 | some (.exit i,T,h)=>ke i T h
 | some (.ret,T,h)=>kr T h
 | _=>False
def loopC (b:Cl) (c:CallC) (ro:Option Nat) (ke:Nat->FT->Hp->Prop) (kr:FT->Hp->Prop) (L:Nat):FT->Hp->Prop :=
 Nat.rec (motive:=fun _=>FT->Hp->Prop) (fun _ _=>False) (fun _ ih T h=>b.fn c ro T h ih ke kr) L
def failS:Cl:=⟨fun _ _ _ _ _ _ _=>False⟩
def getLpC (h:Hp) (l:Nat) (k:Lp->Prop):Prop:=getC h.m l fun e=>kO e fun e=>iff1 (Nat.beq e.unk 0) (kO e.ob fun o=>Ob.rec (motive:=fun _=>Prop) k (fun _=>False) (fun _ _ _ _=>False) (fun _ _ _=>False) o)
theorem getLpC_eq (h:Hp) (l:Nat) (k:Lp->Prop):getLpC h l k=kO (getLp h l) k:=by
 unfold getLpC getLp
 rw [getC_eq]
 cases tget h.m l with
 | none=>rfl
 | some e =>
   show iff1 (Nat.beq e.unk 0) (kO e.ob fun o=>Ob.rec (motive:=fun _=>Prop) k (fun _=>False) (fun _ _ _ _=>False) (fun _ _ _=>False) o)=_
   simp only
   cases Nat.beq e.unk 0 with
   | false=>rfl
   | true =>
     cases e.ob with
     | none=>rfl
     | some o=>cases o<;>rfl
def setLpC (h:Hp) (l st:Nat) (pend:Option Code) (k:Hp->Prop):Prop:=getC h.m l fun e=>kO e fun e=>iff1 (Nat.beq e.unk 0) (kO e.ob fun o=>Ob.rec (motive:=fun _=>Prop) (fun L=>Lp.rec (motive:=fun _=>Prop) (fun fn N ps asg body ts _ _=>setC (some ⟨.nil,0,0,some (.loop ⟨fn,N,ps,asg,body,ts,st,pend⟩)⟩) h.m l fun m=>k ⟨m,h.nxt⟩) L) (fun _=>False) (fun _ _ _ _=>False) (fun _ _ _=>False) o)
theorem setLpC_eq (h:Hp) (l st:Nat) (pend:Option Code) (k:Hp->Prop):setLpC h l st pend k=kO (setLp h l st pend) k:=by
 unfold setLpC setLp
 rw [getC_eq]
 cases tget h.m l with
 | none=>rfl
 | some e =>
   show iff1 (Nat.beq e.unk 0) (kO e.ob fun o=>Ob.rec (motive:=fun _=>Prop) (fun L=>Lp.rec (motive:=fun _=>Prop) (fun fn N ps asg body ts _ _=>setC (some ⟨.nil,0,0,some (.loop ⟨fn,N,ps,asg,body,ts,st,pend⟩)⟩) h.m l fun m=>k ⟨m,h.nxt⟩) L) (fun _=>False) (fun _ _ _ _=>False) (fun _ _ _=>False) o)=_
   simp only
   cases Nat.beq e.unk 0 with
   | false=>rfl
   | true =>
     cases e.ob with
     | none=>rfl
     | some o =>
       cases o with
       | loop L =>
         cases L with
         | mk fn N ps asg body ts st0 pend0 =>
           show (setC (some ⟨.nil,0,0,some (.loop ⟨fn,N,ps,asg,body,ts,st,pend⟩)⟩) h.m l fun m=>k ⟨m,h.nxt⟩)=_
           rw [setC_eq]
           rfl
       | mp es=>rfl
       | bld T e s b=>rfl
       | byt e s b=>rfl
def snapC (T:FT) (n:Nat):(List (Nat × Value)->Prop)->Prop :=
 Nat.rec (motive:=fun _=>(List (Nat × Value)->Prop)->Prop) (fun k=>k []) (fun m ih k=>Option.rec (motive:=fun _=>Prop) (ih k) (fun v=>ih fun l=>k ((m,v) :: l)) ((getS m).fn T)) n
theorem snapC_eq {T:FT} {M:Tm} (hs:Sim T M):∀ (n:Nat) (k:List (Nat × Value)->Prop),snapC T n k=k (snap M n)
 | 0,k=>rfl
 | n+1,k=>by
   show Option.rec (motive:=fun _=>Prop) (snapC T n k) (fun v=>snapC T n fun l=>k ((n,v) :: l)) ((getS n).fn T)=_
   rw [getS_eq,hs n]
   simp only [snap]
   cases tget M n with
   | none=>exact snapC_eq hs n k
   | some v=>exact snapC_eq hs n _
def putAllC (l:List (Nat × Value)):FT->(FT->Prop)->Prop :=
 List.rec (motive:=fun _=>FT->(FT->Prop)->Prop) (fun T k=>k T) (fun p _ ih T k=>Prod.rec (motive:=fun _=>Prop) (fun t v=>(setS t).fn T (some v) fun T'=>ih T' k) p) l
theorem putAllC_ok:∀ (l:List (Nat × Value)) (T:FT) (M:Tm),Sim T M->∃ r:Option FT,(∀ k,putAllC l T k=kO r k)/\∀ T',r=some T'->Sim T' (putAll M l)
 | [],T,M,hs=>⟨some T,fun k=>rfl,fun T' e=>by cases e; exact hs⟩
 | (t,v) :: l,T,M,hs=>by
  cases hb:Nat.blt t 512 with
  | false =>
    refine ⟨none,fun k=>?_,fun T' e=>by cases e⟩
    show ((setS t).fn T (some v) fun T'=>putAllC l T' k)=_
    rw [setS_eq,hb]; rfl
  | true =>
    obtain ⟨r,h1,h2⟩:=putAllC_ok l (setF T (some v) t) (tset M t (some v)) (hs.put (blt_lt hb) _)
    refine ⟨r,fun k=>?_,h2⟩
    show ((setS t).fn T (some v) fun T'=>putAllC l T' k)=_
    rw [setS_eq,hb]
    exact h1 k
def putPsC (ps:List Nat):List Value->FT->(FT->Prop)->Prop :=
 List.rec (motive:=fun _=>List Value->FT->(FT->Prop)->Prop) (fun _ T k=>k T) (fun t _ ih vs T k=>List.rec (motive:=fun _=>Prop) (k T) (fun v vs' _=>(setS t).fn T (some v) fun T'=>ih vs' T' k) vs) ps
theorem putPsC_ok:∀ (ps:List Nat) (vs:List Value) (T:FT) (M:Tm),Sim T M->∃ r:Option FT,(∀ k,putPsC ps vs T k=kO r k)/\∀ T',r=some T'->Sim T' (putPs M ps vs)
 | [],vs,T,M,hs=>⟨some T,fun k=>rfl,fun T' e=>by cases e; exact hs⟩
 | t :: ps,[],T,M,hs=>⟨some T,fun k=>rfl,fun T' e=>by cases e; exact hs⟩
 | t :: ps,v :: vs,T,M,hs=>by
   cases hb:Nat.blt t 512 with
   | false =>
     refine ⟨none,fun k=>?_,fun T' e=>by cases e⟩
     show ((setS t).fn T (some v) fun T'=>putPsC ps vs T' k)=_
     rw [setS_eq,hb]; rfl
   | true =>
     obtain ⟨r,h1,h2⟩:=putPsC_ok ps vs (setF T (some v) t) (tset M t (some v)) (hs.put (blt_lt hb) _)
     refine ⟨r,fun k=>?_,h2⟩
     show ((setS t).fn T (some v) fun T'=>putPsC ps vs T' k)=_
     rw [setS_eq,hb]
     exact h1 k
def jmpK (p:Option Code) (n:Prop) (e:Nat->Prop) (r:Prop):Prop:=match p with
 | none=>n
 | some .ret=>r
 | some (.exit i)=>e i
 | some _=>False
def endK (h:Hp) (l:Nat) (T:FT) (kn:FT->Hp->Prop) (ke:Nat->FT->Hp->Prop) (kr:FT->Hp->Prop):Prop :=
 getLpC h l fun L=>Bool.rec (motive:=fun _=>Prop) (setC none h.m l fun m=>jmpK L.pend (kn T ⟨m,h.nxt⟩) (fun i=>ke i T ⟨m,h.nxt⟩) (kr T ⟨m,h.nxt⟩)) False (Nat.beq L.st 1)
theorem endK_eq (h:Hp) (l:Nat) (T:FT) (kn:FT->Hp->Prop) (ke:Nat->FT->Hp->Prop) (kr:FT->Hp->Prop):endK h l T kn ke kr=kX (endA h l T) kn ke kr:=by
 unfold endK endA
 rw [getLpC_eq]
 cases getLp h l with
 | none=>rfl
 | some L =>
   show Bool.rec (motive:=fun _=>Prop) (setC none h.m l fun m=>jmpK L.pend (kn T ⟨m,h.nxt⟩) (fun i=>ke i T ⟨m,h.nxt⟩) (kr T ⟨m,h.nxt⟩)) False (Nat.beq L.st 1)=kX (bif Nat.beq L.st 1 then none else _) kn ke kr
   cases Nat.beq L.st 1 with
   | true=>rfl
   | false =>
     show (setC none h.m l fun m=>jmpK L.pend (kn T ⟨m,h.nxt⟩) (fun i=>ke i T ⟨m,h.nxt⟩) (kr T ⟨m,h.nxt⟩))=_
     rw [setC_eq]
     unfold jmpK
     cases L.pend with
     | none=>rfl
     | some q=>cases q<;>rfl
def rangeS (E:Env) (f:Nat) (g:Operand) (ps:List Nat) (asg body:Code):Cl:=match tget E.ff f,opvS g with
 | some fn,⟨p⟩=>⟨fun c ro T h kn ke kr=>iff1 (roOk h ro) (kO (p T) fun fv=>isFn fv (fun it first cap=>iff1 (Nat.blt it unkU&&(tget E.ff it).isSome) (snapC T fn.ntmps fun ts =>
    hallocC h h.nxt ⟨.nil,0,0,some (.loop ⟨f,fn.ntmps,ps,asg,body,ts,0,none⟩)⟩ fun h0=>c it (first.toList++[.func (.yield h.nxt) #[] #[]]++cap.toList) h0 fun _ h1=>endK h1 h.nxt T kn ke kr)) fun _=>False)⟩
 | none,_=>failS
def codeS (E:Env) (f L:Nat):Code->Cl
 | .skip=>⟨fun _ _ T h kn _ _=>kn T h⟩
 | .seq a b=>⟨fun c ro T h kn ke kr=>(codeS E f L a).fn c ro T h (fun T' h'=>(codeS E f L b).fn c ro T' h' kn ke kr) ke kr⟩
 | .cond x a b=>match opvS x with
   | ⟨p⟩=>⟨fun c ro T h kn ke kr=>kO (p T) fun v=>isBool v False fun q=>Bool.rec (motive:=fun _=>Prop) ((codeS E f L b).fn c ro T h kn ke kr) ((codeS E f L a).fn c ro T h kn ke kr) q⟩
 | .block id b=>⟨fun c ro T h kn ke kr=>(codeS E f L b).fn c ro T h kn (fun i T' h'=>Bool.rec (motive:=fun _=>Prop) (ke i T' h') (kn T' h') (Nat.beq i id)) kr⟩
 | .loop b=>⟨fun c ro T h _ ke kr=>loopC (codeS E f L b) c ro ke kr L T h⟩
 | .exit id=>⟨fun _ _ T h _ ke _=>ke id T h⟩
 | .ret=>⟨fun _ _ T h _ _ kr=>kr T h⟩
 | .region id ops draw=>bif draw then
    (match tget E.pp f with
    | none=>failS
    | some pf=>match tget pf id with
      | none=>failS
      | some st=>⟨fun c _ T h kn _ _=>(stagesS E ops st).fn c h.nxt T ⟨h.m,h.nxt+ops.size⟩ kn⟩)
   else ⟨fun c _ T h kn _ _=>(opsS E ops ops.toList).fn c T h kn⟩
 | .rangeFunc g ps asg body=>rangeS E f g ps.toList asg body
 | _=>failS
theorem and1 {a b:Bool} (h:(a&&b)=true):a=true:=by cases a<;>simp_all
theorem and2 {a b:Bool} (h:(a&&b)=true):b=true:=by cases a<;>simp_all
def ClOk [LG] (E:Env) (c:CallC) (f N:Nat) (code:Code) (C:Cl):Prop:=∀ ro T M h,Sim T M->
 ∃ r:Option (Exit × FT × Hp),(∀ kn ke kr,C.fn c ro T h kn ke kr=kX r kn ke kr)/\∀ x T' h',r=some (x,T',h')->∃ M',Sim T' M'/\(codeOk E f N code=true->Lead E ro code N M h x M' h')
theorem failS_ok [LG] (E:Env) (c:CallC) (f N:Nat) (code:Code):ClOk E c f N code failS:=fun _ _ _ _ _=>⟨none,fun _ _ _=>rfl,fun _ _ _ e=>by cases e⟩
theorem loop_ok [LG] {E:Env} {c:CallC} {f N:Nat} {code:Code} {C:Cl} (hC:ClOk E c f N code C) (ro:Option Nat):∀ (L:Nat) (T:FT) (M:Tm) (h:Hp),Sim T M->
 ∃ r:Option (Exit × FT × Hp),(∀ kn ke kr,loopC C c ro ke kr L T h=kX r kn ke kr)/\∀ x T' h',r=some (x,T',h')->∃ M',Sim T' M'/\(codeOk E f N code=true->Lead E ro (.loop code) N M h x M' h')
 | 0,T,M,h,hs=>⟨none,fun _ _ _=>rfl,fun _ _ _ e=>by cases e⟩
 | L+1,T,M,h,hs=>by
   obtain ⟨r,h1,h2⟩:=hC ro T M h hs
   have hsh:∀ ke kr,loopC C c ro ke kr (L+1) T h=kX r (loopC C c ro ke kr L) ke kr:=fun ke kr=>h1 _ _ _
   match r,h2,hsh with
   | none,_,hsh=>exact ⟨none,fun kn ke kr=>hsh ke kr,fun _ _ _ e=>by cases e⟩
   | some (.normal,T1,h1'),h2,hsh =>
     obtain ⟨M1,s1,l1⟩:=h2 _ _ _ rfl
     obtain ⟨r2,g1,g2⟩:=loop_ok hC ro L T1 M1 h1' s1
     refine ⟨r2,fun kn ke kr=>(hsh ke kr).trans (g1 kn ke kr),fun x T' h' e=>?_⟩
     obtain ⟨M',s2,l2⟩:=g2 x T' h' e
     refine ⟨M',s2,fun hk rr B θ a w Q hR hB hm ht hN hr hQ=>?_⟩
     show InLoop rr E.P code Q a w
     refine InLoop.once ?_
     refine (l1 hk rr B θ a w _ hR hB hm ht hN hr fun θ1 a1 w1 e1 r1 t1 q1 m1=>?_).wp
     exact l2 hk rr B θ1 a1 w1 Q (hR.mono e1.keep) (Nat.le_trans hB e1.size) m1 t1 (by rw [q1]; exact hN) r1 fun θ2 a2 w2 e2 r2 t2 q2 m2=>hQ θ2 a2 w2 (e1.trans e2 (fun n hn _ e=>by have:=e1.nxt; omega)) r2 t2 (by rw [q2,q1]) m2
   | some (.exit i,T1,h1'),h2,hsh =>
     obtain ⟨M1,s1,l1⟩:=h2 _ _ _ rfl
     refine ⟨some (.exit i,T1,h1'),fun kn ke kr=>hsh ke kr,fun x T' h' e=>?_⟩
     cases e
     refine ⟨M1,s1,fun hk rr B θ a w Q hR hB hm ht hN hr hQ=>?_⟩
     show InLoop rr E.P code Q a w
     refine InLoop.once ?_
     refine (l1 hk rr B θ a w _ hR hB hm ht hN hr fun θ1 a1 w1 e1 r1 t1 q1 m1=>?_).wp
     exact hQ θ1 a1 w1 e1 r1 t1 q1 m1
   | some (.ret,T1,h1'),h2,hsh =>
     obtain ⟨M1,s1,l1⟩:=h2 _ _ _ rfl
     refine ⟨some (.ret,T1,h1'),fun kn ke kr=>hsh ke kr,fun x T' h' e=>?_⟩
     cases e
     refine ⟨M1,s1,fun hk rr B θ a w Q hR hB hm ht hN hr hQ=>?_⟩
     show InLoop rr E.P code Q a w
     refine InLoop.once ?_
     refine (l1 hk rr B θ a w _ hR hB hm ht hN hr fun θ1 a1 w1 e1 r1 t1 q1 m1=>?_).wp
     exact hQ θ1 a1 w1 e1 r1 t1 q1 m1
   | some (.goto _,T1,h1'),_,hsh=>exact ⟨none,fun kn ke kr=>hsh ke kr,fun _ _ _ e=>by cases e⟩
   | some (.panic _,T1,h1'),_,hsh=>exact ⟨none,fun kn ke kr=>hsh ke kr,fun _ _ _ e=>by cases e⟩
   | some (.outgrown,T1,h1'),_,hsh=>exact ⟨none,fun kn ke kr=>hsh ke kr,fun _ _ _ e=>by cases e⟩
theorem codeS_ok [LG] {E:Env} (hE:EnvOk E) (hG:LGOk E) {c:CallC} {call:Nat->List Value->Hp->Option (Value × Hp)} (hc:TwinC c call) (hcall:∀ h,CallAt E.P call h.nxt h) {f L N:Nat}:∀ code:Code,ClOk E c f N code (codeS E f L code):=by
 intro code
 induction code with
 | skip=>exact fun ro T M h hs=>⟨some (.normal,T,h),fun _ _ _=>rfl,fun x T' h' e=>by cases e; exact ⟨M,hs,fun hk rr B θ a w Q hR hB hm ht hN hr hQ=>wpIn_skip (hQ θ a w (Ext.refl _ _ _ _) hr ht rfl hm)⟩⟩
 | exit id=>exact fun ro T M h hs=>⟨some (.exit id,T,h),fun _ _ _=>rfl,fun x T' h' e=>by cases e; exact ⟨M,hs,fun hk rr B θ a w Q hR hB hm ht hN hr hQ=>wpIn_exit (hQ θ a w (Ext.refl _ _ _ _) hr ht rfl hm)⟩⟩
 | ret=>exact fun ro T M h hs=>⟨some (.ret,T,h),fun _ _ _=>rfl,fun x T' h' e=>by cases e; exact ⟨M,hs,fun hk rr B θ a w Q hR hB hm ht hN hr hQ=>wpIn_ret (hQ θ a w (Ext.refl _ _ _ _) hr ht rfl hm)⟩⟩
 | seq c1 c2 i1 i2 =>
   intro ro T M h hs
   obtain ⟨r,h1,h2⟩:=i1 ro T M h hs
   have hsh:∀ kn ke kr,(codeS E f L (.seq c1 c2)).fn c ro T h kn ke kr=kX r (fun T' h'=>(codeS E f L c2).fn c ro T' h' kn ke kr) ke kr:=fun kn ke kr=>h1 _ _ _
   match r,h2,hsh with
   | none,_,hsh=>exact ⟨none,hsh,fun _ _ _ e=>by cases e⟩
   | some (.normal,T1,h1'),h2,hsh =>
     obtain ⟨M1,s1,l1⟩:=h2 _ _ _ rfl
     obtain ⟨r2,g1,g2⟩:=i2 ro T1 M1 h1' s1
     refine ⟨r2,fun kn ke kr=>(hsh kn ke kr).trans (g1 kn ke kr),fun x T' h' e=>?_⟩
     obtain ⟨M',s2,l2⟩:=g2 x T' h' e
     refine ⟨M',s2,fun hk rr B θ a w Q hR hB hm ht hN hr hQ=>?_⟩
     refine wpIn_seq ?_
     refine (l1 (and1 hk) rr B θ a w _ hR hB hm ht hN hr fun θ1 a1 w1 e1 r1 t1 q1 m1=>?_).wp
     refine (l2 (and2 hk) rr B θ1 a1 w1 _ (hR.mono e1.keep) (Nat.le_trans hB e1.size) m1 t1 (by rw [q1]; exact hN) r1 fun θ2 a2 w2 e2 r2 t2 q2 m2=>?_).wp
     exact hQ θ2 a2 w2 (e1.trans e2 (fun n hn _ e=>by have:=e1.nxt; omega)) r2 t2 (by rw [q2,q1]) m2
   | some (.exit i,T1,h1'),h2,hsh =>
     obtain ⟨M1,s1,l1⟩:=h2 _ _ _ rfl
     refine ⟨some (.exit i,T1,h1'),hsh,fun x T' h' e=>?_⟩
     cases e
     refine ⟨M1,s1,fun hk rr B θ a w Q hR hB hm ht hN hr hQ=>wpIn_seq ?_⟩
     refine (l1 (and1 hk) rr B θ a w _ hR hB hm ht hN hr fun θ1 a1 w1 e1 r1 t1 q1 m1=>?_).wp
     exact hQ θ1 a1 w1 e1 r1 t1 q1 m1
   | some (.ret,T1,h1'),h2,hsh =>
     obtain ⟨M1,s1,l1⟩:=h2 _ _ _ rfl
     refine ⟨some (.ret,T1,h1'),hsh,fun x T' h' e=>?_⟩
     cases e
     refine ⟨M1,s1,fun hk rr B θ a w Q hR hB hm ht hN hr hQ=>wpIn_seq ?_⟩
     refine (l1 (and1 hk) rr B θ a w _ hR hB hm ht hN hr fun θ1 a1 w1 e1 r1 t1 q1 m1=>?_).wp
     exact hQ θ1 a1 w1 e1 r1 t1 q1 m1
   | some (.goto _,T1,h1'),_,hsh=>exact ⟨none,hsh,fun _ _ _ e=>by cases e⟩
   | some (.panic _,T1,h1'),_,hsh=>exact ⟨none,hsh,fun _ _ _ e=>by cases e⟩
   | some (.outgrown,T1,h1'),_,hsh=>exact ⟨none,hsh,fun _ _ _ e=>by cases e⟩
 | cond x c1 c2 i1 i2 =>
   intro ro T M h hs
   have hsh:∀ kn ke kr,(codeS E f L (.cond x c1 c2)).fn c ro T h kn ke kr=kO (opv M x) fun v=>isBool v False fun q=>Bool.rec (motive:=fun _=>Prop) ((codeS E f L c2).fn c ro T h kn ke kr) ((codeS E f L c1).fn c ro T h kn ke kr) q:=by
    intro kn ke kr
    show (kO ((opvS x).fn T) fun v=>isBool v False fun q=>Bool.rec (motive:=fun _=>Prop) ((codeS E f L c2).fn c ro T h kn ke kr) ((codeS E f L c1).fn c ro T h kn ke kr) q)=_
    rw [opvS_eq hs]
   cases hx:opv M x with
   | none=>exact ⟨none,fun kn ke kr=>by rw [hsh,hx]; rfl,fun _ _ _ e=>by cases e⟩
   | some v =>
     by_cases hv:∃ b,v = .bool b
     .obtain ⟨b,rfl⟩:=hv
      cases b with
      | true =>
        obtain ⟨r,h1,h2⟩:=i1 ro T M h hs
        refine ⟨r,fun kn ke kr=>by rw [hsh,hx]; exact h1 kn ke kr,fun x' T' h' e=>?_⟩
        obtain ⟨M',s1,l1⟩:=h2 x' T' h' e
        exact ⟨M',s1,fun hk rr B θ a w Q hR hB hm ht hN hr hQ=>wpIn_cond_true (opv_W ht hx) (l1 (and1 hk) rr B θ a w _ hR hB hm ht hN hr hQ).wp⟩
      | false =>
        obtain ⟨r,h1,h2⟩:=i2 ro T M h hs
        refine ⟨r,fun kn ke kr=>by rw [hsh,hx]; exact h1 kn ke kr,fun x' T' h' e=>?_⟩
        obtain ⟨M',s1,l1⟩:=h2 x' T' h' e
        exact ⟨M',s1,fun hk rr B θ a w Q hR hB hm ht hN hr hQ=>wpIn_cond_false (opv_W ht hx) (l1 (and2 hk) rr B θ a w _ hR hB hm ht hN hr hQ).wp⟩
     .refine ⟨none,fun kn ke kr=>?_,fun _ _ _ e=>by cases e⟩
      rw [hsh,hx]
      exact isBool_else (fun b e=>hv ⟨b,e⟩) _ _
 | block id b ib =>
   intro ro T M h hs
   obtain ⟨r,h1,h2⟩:=ib ro T M h hs
   have hsh:∀ kn ke kr,(codeS E f L (.block id b)).fn c ro T h kn ke kr=kX r kn (fun i T' h'=>Bool.rec (motive:=fun _=>Prop) (ke i T' h') (kn T' h') (Nat.beq i id)) kr:=fun kn ke kr=>h1 _ _ _
   match r,h2,hsh with
   | none,_,hsh=>exact ⟨none,hsh,fun _ _ _ e=>by cases e⟩
   | some (.normal,T1,h1'),h2,hsh =>
     obtain ⟨M1,s1,l1⟩:=h2 _ _ _ rfl
     refine ⟨some (.normal,T1,h1'),hsh,fun x T' h' e=>?_⟩
     cases e
     refine ⟨M1,s1,fun hk rr B θ a w Q hR hB hm ht hN hr hQ=>wpIn_block ?_⟩
     refine (l1 hk rr B θ a w _ hR hB hm ht hN hr fun θ1 a1 w1 e1 r1 t1 q1 m1=>?_).wp
     exact hQ θ1 a1 w1 e1 r1 t1 q1 m1
   | some (.exit i,T1,h1'),h2,hsh =>
     obtain ⟨M1,s1,l1⟩:=h2 _ _ _ rfl
     cases hb:Nat.beq i id with
     | true =>
       refine ⟨some (.normal,T1,h1'),fun kn ke kr=>(hsh kn ke kr).trans ?_,fun x T' h' e=>?_⟩
       .show Bool.rec (motive:=fun _=>Prop) (ke i T1 h1') (kn T1 h1') (Nat.beq i id)=_
        rw [hb]; rfl
       .cases e
        refine ⟨M1,s1,fun hk rr B θ a w Q hR hB hm ht hN hr hQ=>wpIn_block ?_⟩
        refine (l1 hk rr B θ a w _ hR hB hm ht hN hr fun θ1 a1 w1 e1 r1 t1 q1 m1=>?_).wp
        simp only [Exit.inBlock]
        rw [if_pos (Nat.eq_of_beq_eq_true hb)]
        exact hQ θ1 a1 w1 e1 r1 t1 q1 m1
     | false =>
       refine ⟨some (.exit i,T1,h1'),fun kn ke kr=>(hsh kn ke kr).trans ?_,fun x T' h' e=>?_⟩
       .show Bool.rec (motive:=fun _=>Prop) (ke i T1 h1') (kn T1 h1') (Nat.beq i id)=_
        rw [hb]; rfl
       .cases e
        refine ⟨M1,s1,fun hk rr B θ a w Q hR hB hm ht hN hr hQ=>wpIn_block ?_⟩
        refine (l1 hk rr B θ a w _ hR hB hm ht hN hr fun θ1 a1 w1 e1 r1 t1 q1 m1=>?_).wp
        simp only [Exit.inBlock]
        rw [if_neg (beq_ne hb)]
        exact hQ θ1 a1 w1 e1 r1 t1 q1 m1
   | some (.ret,T1,h1'),h2,hsh =>
     obtain ⟨M1,s1,l1⟩:=h2 _ _ _ rfl
     refine ⟨some (.ret,T1,h1'),hsh,fun x T' h' e=>?_⟩
     cases e
     refine ⟨M1,s1,fun hk rr B θ a w Q hR hB hm ht hN hr hQ=>wpIn_block ?_⟩
     refine (l1 hk rr B θ a w _ hR hB hm ht hN hr fun θ1 a1 w1 e1 r1 t1 q1 m1=>?_).wp
     exact hQ θ1 a1 w1 e1 r1 t1 q1 m1
   | some (.goto _,T1,h1'),_,hsh=>exact ⟨none,hsh,fun _ _ _ e=>by cases e⟩
   | some (.panic _,T1,h1'),_,hsh=>exact ⟨none,hsh,fun _ _ _ e=>by cases e⟩
   | some (.outgrown,T1,h1'),_,hsh=>exact ⟨none,hsh,fun _ _ _ e=>by cases e⟩
 | loop b ib =>
   intro ro T M h hs
   exact loop_ok ib ro L T M h hs
 | region id ops draw =>
   intro ro T M h hs
   cases draw with
   | false =>
     obtain ⟨r,h1,h2⟩:=opsS_ok E ops hc ops.toList T M h hs
     cases r with
     | none=>exact ⟨none,fun kn ke kr=>h1 (kP kn),fun _ _ _ e=>by cases e⟩
     | some p =>
       obtain ⟨M',q1,q2⟩:=h2 p rfl
       refine ⟨some (.normal,p.1,p.2),fun kn ke kr=>h1 (kP kn),fun x T' h' e=>?_⟩
       cases e
       exact ⟨M',q2,fun hk rr B θ a w Q hR hB hm ht hN hr hQ=>region_sound hE.tt hcall q1 (and1 hk) ht hN hr fun θ' a' w' e1 r1 t1 s1 d1=>hQ θ' a' w' e1 r1 t1 s1 (by rw [d1]; exact hm.ext e1)⟩
   | true =>
     simp only [Xo.fn_mk,Ds.fn_mk,Wt.fn_mk,Rg.fn_mk,Pg.fn_mk,Rc.fn_mk,Sg.fn_mk,Cl.fn_mk,codeS,cond_true]
     cases hpf:tget E.pp f with
     | none=>exact failS_ok E c f N _ ro T M h hs
     | some pf =>
       simp only
       cases hst:tget pf id with
       | none=>exact failS_ok E c f N _ ro T M h hs
       | some st =>
         obtain ⟨r,h1,h2⟩:=stagesS_ok E ops hc h.nxt st T M ⟨h.m,h.nxt+ops.size⟩ hs
         cases r with
         | none=>exact ⟨none,fun kn ke kr=>h1 (kP kn),fun _ _ _ e=>by cases e⟩
         | some p =>
           obtain ⟨M',q1,q2⟩:=h2 p rfl
           refine ⟨some (.normal,p.1,p.2),fun kn ke kr=>h1 (kP kn),fun x T' h' e=>?_⟩
           cases e
           exact ⟨M',q2,fun hk rr B θ a w Q hR hB hm ht hN hr hQ=>draw_sound hE.tt hE.mixed hcall q1 (by have hpl:=and2 hk; simpa only [cond_true,hpf,hst] using hpl) (and1 hk) ht hN hr fun θ' a' w' e1 r1 t1 s1 d1=>hQ θ' a' w' e1 r1 t1 s1 (by rw [d1]; exact hm.ext e1)⟩
 | rangeFunc g ps asg body i1 i2 =>
   intro ro T M h hs
   show ∃ r:Option (Exit × FT × Hp),(∀ kn ke kr,(rangeS E f g ps.toList asg body).fn c ro T h kn ke kr=kX r kn ke kr)/\_
   unfold rangeS
   cases hfn:tget E.ff f with
   | none=>exact failS_ok E c f N _ ro T M h hs
   | some fn =>
     have hsh:∀ kn ke kr,(Cl.mk fun c ro T h kn ke kr=>iff1 (roOk h ro) (kO ((opvS g).fn T) fun fv=>isFn fv (fun it first cap=>iff1 (Nat.blt it unkU&&(tget E.ff it).isSome) (snapC T fn.ntmps fun ts =>
      hallocC h h.nxt ⟨.nil,0,0,some (.loop ⟨f,fn.ntmps,ps.toList,asg,body,ts,0,none⟩)⟩ fun h0=>c it (first.toList++[.func (.yield h.nxt) #[] #[]]++cap.toList) h0 fun _ h1=>endK h1 h.nxt T kn ke kr)) fun _=>False)).fn c ro T h kn ke kr =
      iff1 (roOk h ro) (kO (opv M g) fun fv=>isFn fv (fun it first cap=>iff1 (Nat.blt it unkU&&(tget E.ff it).isSome) (k2 (call it (first.toList++[.func (.yield h.nxt) #[] #[]]++cap.toList) (newLp h ⟨f,fn.ntmps,ps.toList,asg,body,snap M fn.ntmps,0,none⟩)) fun _ h1=>kX (endA h1 h.nxt T) kn ke kr)) fun _=>False):=by
      intro kn ke kr
      show iff1 (roOk h ro) (kO ((opvS g).fn T) fun fv=>isFn fv (fun it first cap=>iff1 (Nat.blt it unkU&&(tget E.ff it).isSome) (snapC T fn.ntmps fun ts =>
       hallocC h h.nxt ⟨.nil,0,0,some (.loop ⟨f,fn.ntmps,ps.toList,asg,body,ts,0,none⟩)⟩ fun h0=>c it (first.toList++[.func (.yield h.nxt) #[] #[]]++cap.toList) h0 fun _ h1=>endK h1 h.nxt T kn ke kr)) fun _=>False)=_
      rw [opvS_eq hs]
      simp only [snapC_eq hs,hallocC_eq,endK_eq,hc _ _ _ _]
      rfl
     show ∃ r:Option (Exit × FT × Hp),(∀ kn ke kr,(Cl.mk fun c ro T h kn ke kr=>iff1 (roOk h ro) (kO ((opvS g).fn T) fun fv=>isFn fv (fun it first cap=>iff1 (Nat.blt it unkU&&(tget E.ff it).isSome) (snapC T fn.ntmps fun ts =>
      hallocC h h.nxt ⟨.nil,0,0,some (.loop ⟨f,fn.ntmps,ps.toList,asg,body,ts,0,none⟩)⟩ fun h0=>c it (first.toList++[.func (.yield h.nxt) #[] #[]]++cap.toList) h0 fun _ h1=>endK h1 h.nxt T kn ke kr)) fun _=>False)).fn c ro T h kn ke kr=kX r kn ke kr)/\_
     simp only [hsh]
     cases hro:roOk h ro with
     | false=>exact ⟨none,fun _ _ _=>rfl,fun _ _ _ e=>by cases e⟩
     | true =>
       cases hv:opv M g with
       | none=>exact ⟨none,fun _ _ _=>rfl,fun _ _ _ e=>by cases e⟩
       | some fv =>
         by_cases hfv:∃ it first cap,fv = .func (.func it) first cap
         .obtain ⟨it,first,cap,rfl⟩:=hfv
          cases hi:(Nat.blt it unkU&&(tget E.ff it).isSome) with
          | false=>exact ⟨none,fun kn ke kr=>by show iff1 (Nat.blt it unkU&&(tget E.ff it).isSome) _=_; rw [hi]; rfl,fun _ _ _ e=>by cases e⟩
          | true =>
            simp only [Bool.and_eq_true] at hi
            cases hcl:call it (first.toList++[.func (.yield h.nxt) #[] #[]]++cap.toList) (newLp h ⟨f,fn.ntmps,ps.toList,asg,body,snap M fn.ntmps,0,none⟩) with
            | none=>exact ⟨none,fun kn ke kr=>by show iff1 (Nat.blt it unkU&&(tget E.ff it).isSome) (k2 (call it _ _) _)=_; rw [hi.1,hi.2,hcl]; rfl,fun _ _ _ e=>by cases e⟩
            | some p =>
              refine ⟨endA p.2 h.nxt T,fun kn ke kr=>by show iff1 (Nat.blt it unkU&&(tget E.ff it).isSome) (k2 (call it _ _) _)=_; rw [hi.1,hi.2,hcl]; rfl,fun x T' h' e=>?_⟩
              have hTT:T'=T:=by
               unfold endA at e
               obtain ⟨Le,_,q⟩:=ob_some e
               cases hb:Nat.beq Le.st 1<;>simp only [hb,cond_true,cond_false,reduceCtorEq] at q
               split at q<;>cases q<;>rfl
              subst hTT
              exact ⟨M,hs,fun hk rr B θ a w Q hR hB hm ht hN hr hQ=>(range_sound (f:=⟨f,ro⟩) hE hG hcall hk hro hv hfn (blt_lt hi.1) hi.2 hcl e hR hB hm ht hN hr hQ).2⟩
         .refine ⟨none,fun kn ke kr=>?_,fun _ _ _ e=>by cases e⟩
          show isFn fv _ _=False
          cases fv<;>try rfl
          rename_i fr a b
          cases fr<;>try rfl
          exact absurd ⟨_,_,_,rfl⟩ hfv
 | _=>exact failS_ok E c f N _
def argsC (l:List Value):FT->Nat->(FT->Prop)->Prop :=
 List.rec (motive:=fun _=>FT->Nat->(FT->Prop)->Prop) (fun T _ k=>k T) (fun v _ ih T i k=>(setS i).fn T (some v) fun T'=>ih T' (Nat.succ i) k) l
theorem argsC_ok:∀ (l:List Value) (T:FT) (M:Tm) (i:Nat),Sim T M->∃ r:Option FT,(∀ k,argsC l T i k=kO r k)/\∀ T',r=some T'->Sim T' (args0 M i l)
 | [],T,M,i,hs=>⟨some T,fun k=>rfl,fun T' e=>by cases e; exact hs⟩
 | v :: l,T,M,i,hs=>by
   cases hb:Nat.blt i 512 with
   | false =>
     refine ⟨none,fun k=>?_,fun T' e=>by cases e⟩
     show ((setS i).fn T (some v) fun T'=>argsC l T' (i+1) k)=_
     rw [setS_eq,hb]; rfl
   | true =>
     obtain ⟨r,h1,h2⟩:=argsC_ok l (setF T (some v) i) (tset M i (some v)) (i+1) (hs.put (blt_lt hb) _)
     refine ⟨r,fun k=>?_,h2⟩
     show ((setS i).fn T (some v) fun T'=>argsC l T' (i+1) k)=_
     rw [setS_eq,hb]
     exact h1 k
structure Rs where
 f0:FT->Hp->(Value->Prop)->Prop
def Rs.fn (X:Rs) (x0:FT) (x1:Hp) (x2:(Value->Prop)):Prop:=Rs.rec (motive:=fun _=>Prop) (fun f=>f x0 x1 x2) X
theorem Rs.fn_mk (f:FT->Hp->(Value->Prop)->Prop) (x0:FT) (x1:Hp) (x2:(Value->Prop)):(Rs.mk f).fn x0 x1 x2=f x0 x1 x2:=rfl
def resS (E:Env) (rs:List ResultVar):Rs:=match rs with
 | [.tmp t]=>⟨fun T _ k=>kO ((getS t).fn T) k⟩
 | _=>⟨fun T h k=>kO (resA (rhoS T) h E rs) fun vs=>kO (oneOf vs) k⟩
theorem resS_ok (E:Env) {T:FT} {M:Tm} (hs:Sim T M) (h:Hp) (rs:List ResultVar):∃ r:Option Value,(∀ k,(resS E rs).fn T h k=kO r k)/\∀ v,r=some v->∃ vs,resA (opv M) h E rs=some vs/\oneOf vs=some v:=by
 unfold resS
 split
 .rename_i t
  refine ⟨tget M t,fun k=>?_,fun v e=>⟨[v],?_,rfl⟩⟩
  .show kO ((getS t).fn T) k=_
   rw [getS_eq,hs t]
  .simp only [resA,opv,e]
 .refine ⟨ob (resA (opv M) h E rs) oneOf,fun k=>?_,fun v e=>?_⟩
  .show (kO (resA (rhoS T) h E rs) fun vs=>kO (oneOf vs) k)=_
   rw [rhoS_eq hs]
   cases resA (opv M) h E rs<;>rfl
  .exact ob_some e
structure Fk where
 f0:CallC->List Value->Hp->(Value->Hp->Prop)->Prop
def Fk.fn (X:Fk) (x0:CallC) (x1:List Value) (x2:Hp) (x3:(Value->Hp->Prop)):Prop:=Fk.rec (motive:=fun _=>Prop) (fun f=>f x0 x1 x2 x3) X
theorem Fk.fn_mk (f:CallC->List Value->Hp->(Value->Hp->Prop)->Prop) (x0:CallC) (x1:List Value) (x2:Hp) (x3:(Value->Hp->Prop)):(Fk.mk f).fn x0 x1 x2 x3=f x0 x1 x2 x3:=rfl
def fnS (E:Env) (L g:Nat):Fk:=match tget E.ff g with
 | none=>⟨fun _ args h k=>k2 (xext E g args h) k⟩
 | some fn=>match fn.body with
   | none=>⟨fun _ _ _ _=>False⟩
   | some b=>⟨fun c args h k=>argsC args zeroF 0 fun T=>(codeS E g L b).fn c none T h (fun T' h'=>(resS E fn.results.toList).fn T' h' fun r=>k r h') (fun _ _ _=>False) (fun T' h'=>(resS E fn.results.toList).fn T' h' fun r=>k r h')⟩
def roundK (E:Env) (D:Nat) (c:CallC) (l:Nat) (args:List Value) (h:Hp) (k:Value->Hp->Prop):Prop :=
 getLpC h l fun L=>Lp.rec (motive:=fun _=>Prop) (fun fn _ ps asg body ts st _=>iff1 (Nat.beq st 0&&Nat.beq ps.length args.length) (putAllC ts zeroF fun T0=>putPsC ps args T0 fun T1 =>
  (codeS E fn D asg).fn c (some l) T1 h (fun T2 h1=>getLpC h1 l fun L1=>iff1 (Nat.beq L1.st 0) (setLpC h1 l 1 L1.pend fun h2 =>
    (codeS E fn D body).fn c (some l) T2 h2 (fun _ h3=>setLpC h3 l 0 none fun h4=>k (.bool true) h4) (fun i _ h3=>setLpC h3 l 2 (some (.exit i)) fun h4=>k (.bool false) h4) (fun _ h3=>setLpC h3 l 2 (some .ret) fun h4=>k (.bool false) h4)))
    (fun _ _ _=>False) (fun _ _=>False))) L
def callK (E:Env) (L D:Nat):CallC :=
 Nat.rec (motive:=fun _=>CallC) (fun _ _ _ _=>False) (fun _ ih g args h k=>Bool.rec (motive:=fun _=>Prop) (roundK E L ih (g-unkU) args h k) ((fnS E L g).fn ih args h k) (Nat.blt g unkU)) D
def CallsTo [LG] (P:Program) (g:Nat) (args:List Value) (h:Hp) (r:Value) (h':Hp):Prop:=∀ θ w cargs,HR θ h w->all2 (W θ) args cargs->
 ((callFunc g cargs.toArray).run P w = .ok (.enter g cargs.toArray) w/\Calls P g cargs.toArray w (fun e w'=>∃ θ' u,e = .returned u/\Ext h.nxt θ h w θ' h' w'/\HR θ' h' w'/\W θ' r u))\/
 (∃ u,(callFunc g cargs.toArray).run P w = .ok (.value u) w/\W θ r u/\h'=h)
def RoundTo [LG] (P:Program) (l:Nat) (args:List Value) (h:Hp) (r:Value) (h':Hp):Prop:=∀ θ w cargs,HR θ h w->all2 (W θ) args cargs->∀ x,θ l=some x->
 YieldAt Fence.wide 0 P x.1 cargs.toArray w (fun e w'=>∃ θ' u,e = .returned u/\Ext h.nxt θ h w θ' h' w'/\HR θ' h' w'/\W θ' r u)
theorem fnS_ok [LG] {E:Env} (hE:EnvOk E) (hG:LGOk E) {c:CallC} {call:Nat->List Value->Hp->Option (Value × Hp)} (hc:TwinC c call) (hcall:∀ h,CallAt E.P call h.nxt h) (L g:Nat) (hg:g<unkU) (args:List Value) (h:Hp) :
 ∃ r:Option (Value × Hp),(∀ k,(fnS E L g).fn c args h k=k2 r k)/\∀ p,r=some p->CallsTo E.P g args h p.1 p.2:=by
 unfold fnS
 cases hfn:tget E.ff g with
 | none =>
   refine ⟨xext E g args h,fun k=>rfl,fun p e=>?_⟩
   have hb:Nat.blt g unkU=true:=Nat.ble_eq_true_of_le hg
   have hx:callA E (fun _ _ _ _=>none) g args h=some (p.1,p.2):=by
    simp only [callA,hfn,hb,cond_true]
    exact e
   exact fun θ w cargs hr ha=>(call_sound hE hG (fun c f N T h x T' h' q=>by cases q) h g args p.1 p.2 hx θ w cargs hr ha).1 hg
 | some fn =>
   obtain ⟨f1,f2,b,f3,f4⟩:=hE.ff g fn hfn
   simp only [f3]
   obtain ⟨ra,a1,a2⟩:=argsC_ok args zeroF .nil 0 zero_sim
   cases ra with
   | none=>exact ⟨none,fun k=>a1 _,fun p e=>by cases e⟩
   | some T =>
     have hs:=a2 T rfl
     obtain ⟨rc,c1,c2⟩:=codeS_ok hE hG hc hcall (f:=g) (N:=fn.ntmps) (L:=L) b none T (args0 .nil 0 args) h hs
     have hsh:∀ k:Value->Hp->Prop,(argsC args zeroF 0 fun T=>(codeS E g L b).fn c none T h (fun T' h'=>(resS E fn.results.toList).fn T' h' fun r=>k r h') (fun _ _ _=>False) (fun T' h'=>(resS E fn.results.toList).fn T' h' fun r=>k r h'))=kX rc (fun T' h'=>(resS E fn.results.toList).fn T' h' fun r=>k r h') (fun _ _ _=>False) (fun T' h'=>(resS E fn.results.toList).fn T' h' fun r=>k r h'):=fun k=>(a1 _).trans (c1 _ _ _)
     have fin:∀ x T' h' v,rc=some (x,T',h')->(x = .normal\/x = .ret)->(∀ M',Sim T' M'->∃ vs,resA (opv M') h' E fn.results.toList=some vs/\oneOf vs=some v)->CallsTo E.P g args h v h':=by
      intro x T' h' v e hx hres θ w cargs hr ha
      obtain ⟨M',s1,l1'⟩:=c2 x T' h' e
      have l1:=l1' f4
      refine .inl ?_
      have hsz:fn.ntmps<=(cargs.toArray++Array.replicate (fn.ntmps-cargs.toArray.size) undef).size:=by simp; omega
      obtain ⟨vs,k1,k3⟩:=hres M' s1
      exact body_sound (args:=args) hE hfn hx k1 k3 f3 fun Q hQ=>(l1 none w.heap.size θ ⟨_,[]⟩ w _ trivial (Nat.le_refl _) trivial (args_TR ha _) hsz hr fun θ' a' w' e1 r1 t1 _ m1=>hQ θ' a' w' e1 r1 t1 m1).wp
     have half:∀ x T' h',rc=some (x,T',h')->(x = .normal\/x = .ret)->∃ r:Option (Value × Hp),(∀ k:Value->Hp->Prop,((resS E fn.results.toList).fn T' h' fun r=>k r h')=k2 r k)/\∀ p,r=some p->CallsTo E.P g args h p.1 p.2:=by
      intro x T' h' e hx
      obtain ⟨M1,s1,_⟩:=c2 x T' h' e
      obtain ⟨rr,r1,r2⟩:=resS_ok E s1 h' fn.results.toList
      cases rr with
      | none=>exact ⟨none,fun k=>r1 _,fun p q=>by cases q⟩
      | some v =>
        refine ⟨some (v,h'),fun k=>r1 _,fun p q=>?_⟩
        cases q
        refine fin x T' h' v e hx fun M' s'=>?_
        obtain ⟨rr',r1',r2'⟩:=resS_ok E s' h' fn.results.toList
        have hrr:rr'=some v:=by
         cases rr' with
         | none =>
           have e1:=r1 fun _=>True
           have e2:=r1' fun _=>True
           rw [e1] at e2
           exact absurd (show kO (some v) fun _=>True from trivial) (by rw [e2]; exact id)
         | some v' =>
           have e1:=r1 fun y=>y=v
           have e2:=r1' fun y=>y=v
           rw [e1] at e2
           have:(kO (some v') fun y=>y=v):=by rw [<- e2]; exact (rfl:v=v)
           have h3:v'=v:=this
           rw [h3]
        exact r2' v hrr
     match rc,half,hsh with
     | none,_,hsh=>exact ⟨none,hsh,fun p q=>by cases q⟩
     | some (.normal,T',h'),half,hsh =>
       obtain ⟨r,g1,g2⟩:=half _ _ _ rfl (.inl rfl)
       exact ⟨r,fun k=>(hsh k).trans (g1 k),g2⟩
     | some (.ret,T',h'),half,hsh =>
       obtain ⟨r,g1,g2⟩:=half _ _ _ rfl (.inr rfl)
       exact ⟨r,fun k=>(hsh k).trans (g1 k),g2⟩
     | some (.exit i,T',h'),_,hsh=>exact ⟨none,hsh,fun p q=>by cases q⟩
     | some (.goto _,T',h'),_,hsh=>exact ⟨none,hsh,fun p q=>by cases q⟩
     | some (.panic _,T',h'),_,hsh=>exact ⟨none,hsh,fun p q=>by cases q⟩
     | some (.outgrown,T',h'),_,hsh=>exact ⟨none,hsh,fun p q=>by cases q⟩
theorem roundK_ok [LG] {E:Env} (hE:EnvOk E) (hG:LGOk E) {c:CallC} {call:Nat->List Value->Hp->Option (Value × Hp)} (hc:TwinC c call) (hcall:∀ h,CallAt E.P call h.nxt h) (D l:Nat) (args:List Value) (h:Hp) :
 ∃ r:Option (Value × Hp),(∀ k,roundK E D c l args h k=k2 r k)/\∀ p,r=some p->RoundTo E.P l args h p.1 p.2:=by
 have no:∀ {X:(Value->Hp->Prop)->Prop},(∀ k,X k=False)->∃ r:Option (Value × Hp),(∀ k,X k=k2 r k)/\∀ p,r=some p->RoundTo E.P l args h p.1 p.2:=fun hX=>⟨none,hX,fun p e=>by cases e⟩
 unfold roundK
 simp only [getLpC_eq]
 cases hL:getLp h l with
 | none=>exact no fun k=>rfl
 | some L =>
   obtain ⟨fn,N,ps,asg,body,ts,st,pend⟩:=L
   show ∃ r:Option (Value × Hp),(∀ k,iff1 (Nat.beq st 0&&Nat.beq ps.length args.length) (putAllC ts zeroF fun T0=>putPsC ps args T0 fun T1 =>
    (codeS E fn D asg).fn c (some l) T1 h (fun T2 h1=>kO (getLp h1 l) fun L1=>iff1 (Nat.beq L1.st 0) (setLpC h1 l 1 L1.pend fun h2 =>
    (codeS E fn D body).fn c (some l) T2 h2 (fun _ h3=>setLpC h3 l 0 none fun h4=>k (.bool true) h4) (fun i _ h3=>setLpC h3 l 2 (some (.exit i)) fun h4=>k (.bool false) h4) (fun _ h3=>setLpC h3 l 2 (some .ret) fun h4=>k (.bool false) h4)))
    (fun _ _ _=>False) (fun _ _=>False))=k2 r k)/\_
   simp only [setLpC_eq]
   cases hq:(Nat.beq st 0&&Nat.beq ps.length args.length) with
   | false=>exact no fun k=>rfl
   | true =>
     simp only [Bool.and_eq_true] at hq
     show ∃ r:Option (Value × Hp),(∀ k,(putAllC ts zeroF fun T0=>putPsC ps args T0 fun T1 =>
      (codeS E fn D asg).fn c (some l) T1 h (fun T2 h1=>kO (getLp h1 l) fun L1=>iff1 (Nat.beq L1.st 0) (kO (setLp h1 l 1 L1.pend) fun h2 =>
      (codeS E fn D body).fn c (some l) T2 h2 (fun _ h3=>kO (setLp h3 l 0 none) fun h4=>k (.bool true) h4) (fun i _ h3=>kO (setLp h3 l 2 (some (.exit i))) fun h4=>k (.bool false) h4) (fun _ h3=>kO (setLp h3 l 2 (some .ret)) fun h4=>k (.bool false) h4)))
      (fun _ _ _=>False) (fun _ _=>False))=k2 r k)/\_
     obtain ⟨ra,a1,a2⟩:=putAllC_ok ts zeroF .nil zero_sim
     simp only [a1]
     cases ra with
     | none=>exact no fun k=>rfl
     | some T0 =>
       obtain ⟨rb,b1,b2⟩:=putPsC_ok ps args T0 _ (a2 T0 rfl)
       show ∃ r:Option (Value × Hp),(∀ k,(putPsC ps args T0 fun T1 =>
        (codeS E fn D asg).fn c (some l) T1 h (fun T2 h1=>kO (getLp h1 l) fun L1=>iff1 (Nat.beq L1.st 0) (kO (setLp h1 l 1 L1.pend) fun h2 =>
        (codeS E fn D body).fn c (some l) T2 h2 (fun _ h3=>kO (setLp h3 l 0 none) fun h4=>k (.bool true) h4) (fun i _ h3=>kO (setLp h3 l 2 (some (.exit i))) fun h4=>k (.bool false) h4) (fun _ h3=>kO (setLp h3 l 2 (some .ret)) fun h4=>k (.bool false) h4)))
        (fun _ _ _=>False) (fun _ _=>False))=k2 r k)/\_
       simp only [b1]
       cases rb with
       | none=>exact no fun k=>rfl
       | some T1 =>
         obtain ⟨rc,c1,c2⟩:=codeS_ok hE hG hc hcall (f:=fn) (N:=N) (L:=D) asg (some l) T1 _ h (b2 T1 rfl)
         show ∃ r:Option (Value × Hp),(∀ k,((codeS E fn D asg).fn c (some l) T1 h (fun T2 h1=>kO (getLp h1 l) fun L1=>iff1 (Nat.beq L1.st 0) (kO (setLp h1 l 1 L1.pend) fun h2 =>
          (codeS E fn D body).fn c (some l) T2 h2 (fun _ h3=>kO (setLp h3 l 0 none) fun h4=>k (.bool true) h4) (fun i _ h3=>kO (setLp h3 l 2 (some (.exit i))) fun h4=>k (.bool false) h4) (fun _ h3=>kO (setLp h3 l 2 (some .ret)) fun h4=>k (.bool false) h4)))
          (fun _ _ _=>False) (fun _ _=>False))=k2 r k)/\_
         simp only [c1]
         match rc,c2 with
         | none,_=>exact no fun k=>rfl
         | some (.ret,_,_),_=>exact no fun k=>rfl
         | some (.exit _,_,_),_=>exact no fun k=>rfl
         | some (.goto _,_,_),_=>exact no fun k=>rfl
         | some (.panic _,_,_),_=>exact no fun k=>rfl
         | some (.outgrown,_,_),_=>exact no fun k=>rfl
         | some (.normal,T2,h1),c2 =>
           obtain ⟨M2,s2,lead1⟩:=c2 _ _ _ rfl
           show ∃ r:Option (Value × Hp),(∀ k,(kO (getLp h1 l) fun L1=>iff1 (Nat.beq L1.st 0) (kO (setLp h1 l 1 L1.pend) fun h2 =>
            (codeS E fn D body).fn c (some l) T2 h2 (fun _ h3=>kO (setLp h3 l 0 none) fun h4=>k (.bool true) h4) (fun i _ h3=>kO (setLp h3 l 2 (some (.exit i))) fun h4=>k (.bool false) h4) (fun _ h3=>kO (setLp h3 l 2 (some .ret)) fun h4=>k (.bool false) h4)))=k2 r k)/\_
           cases hL1:getLp h1 l with
           | none=>exact no fun k=>rfl
           | some L1 =>
             show ∃ r:Option (Value × Hp),(∀ k,iff1 (Nat.beq L1.st 0) (kO (setLp h1 l 1 L1.pend) fun h2 =>
              (codeS E fn D body).fn c (some l) T2 h2 (fun _ h3=>kO (setLp h3 l 0 none) fun h4=>k (.bool true) h4) (fun i _ h3=>kO (setLp h3 l 2 (some (.exit i))) fun h4=>k (.bool false) h4) (fun _ h3=>kO (setLp h3 l 2 (some .ret)) fun h4=>k (.bool false) h4))=k2 r k)/\_
             cases hq1:Nat.beq L1.st 0 with
             | false=>exact no fun k=>rfl
             | true =>
               show ∃ r:Option (Value × Hp),(∀ k,(kO (setLp h1 l 1 L1.pend) fun h2 =>
                (codeS E fn D body).fn c (some l) T2 h2 (fun _ h3=>kO (setLp h3 l 0 none) fun h4=>k (.bool true) h4) (fun i _ h3=>kO (setLp h3 l 2 (some (.exit i))) fun h4=>k (.bool false) h4) (fun _ h3=>kO (setLp h3 l 2 (some .ret)) fun h4=>k (.bool false) h4))=k2 r k)/\_
               cases hs2:setLp h1 l 1 L1.pend with
               | none=>exact no fun k=>rfl
               | some h2 =>
                 obtain ⟨rd,d1,d2⟩:=codeS_ok hE hG hc hcall (f:=fn) (N:=N) (L:=D) body (some l) T2 M2 h2 s2
                 show ∃ r:Option (Value × Hp),(∀ k,((codeS E fn D body).fn c (some l) T2 h2 (fun _ h3=>kO (setLp h3 l 0 none) fun h4=>k (.bool true) h4) (fun i _ h3=>kO (setLp h3 l 2 (some (.exit i))) fun h4=>k (.bool false) h4) (fun _ h3=>kO (setLp h3 l 2 (some .ret)) fun h4=>k (.bool false) h4))=k2 r k)/\_
                 simp only [d1]
                 have fin:∀ (x:Exit) (T3:FT) (h3:Hp) (st':Nat) (pend':Option Code),rd=some (x,T3,h3)->endSt x=some (st',pend')->∃ r:Option (Value × Hp),(∀ k:Value->Hp->Prop,(kO (setLp h3 l st' pend') fun h4=>k (.bool pend'.isNone) h4)=k2 r k)/\∀ p,r=some p->RoundTo E.P l args h p.1 p.2:=by
                  intro x T3 h3 st' pend' erd hx
                  obtain ⟨M3,s3,lead2⟩:=d2 x T3 h3 erd
                  cases hs4:setLp h3 l st' pend' with
                  | none=>exact no fun k=>rfl
                  | some h4 =>
                    refine ⟨some (.bool pend'.isNone,h4),fun k=>rfl,fun p e=>?_⟩
                    cases e
                    exact fun θ w cargs hr ha x' hx'=>round_sound hG hL (Nat.eq_of_beq_eq_true hq.1) (Nat.eq_of_beq_eq_true hq.2) lead1 hL1 (Nat.eq_of_beq_eq_true hq1) hs2 lead2 hx hs4 hr ha hx'
                 match rd,fin with
                 | none,_=>exact no fun k=>rfl
                 | some (.normal,T3,h3),fin=>exact fin _ _ _ 0 none rfl rfl
                 | some (.ret,T3,h3),fin=>exact fin _ _ _ 2 (some .ret) rfl rfl
                 | some (.exit i,T3,h3),fin=>exact fin _ _ _ 2 (some (.exit i)) rfl rfl
                 | some (.goto _,_,_),_=>exact no fun k=>rfl
                 | some (.panic _,_,_),_=>exact no fun k=>rfl
                 | some (.outgrown,_,_),_=>exact no fun k=>rfl
theorem callK_ok [LG] {E:Env} (hE:EnvOk E) (hG:LGOk E) (L:Nat):∀ D,∃ call,TwinC (callK E L D) call/\∀ h,CallAt E.P call h.nxt h
 | 0=>⟨fun _ _ _=>none,fun _ _ _ _=>rfl,fun h g args r h' e=>by cases e⟩
 | D+1=>by
   obtain ⟨call,hc,hcall⟩:=callK_ok hE hG L D
   have H:∀ g args h,∃ r:Option (Value × Hp),(∀ k,callK E L (D+1) g args h k=k2 r k)/\∀ p,r=some p->(g<unkU->CallsTo E.P g args h p.1 p.2)/\(unkU<=g->RoundTo E.P (g-unkU) args h p.1 p.2):=by
    intro g args h
    have hsh:∀ k,callK E L (D+1) g args h k=Bool.rec (motive:=fun _=>Prop) (roundK E L (callK E L D) (g-unkU) args h k) ((fnS E L g).fn (callK E L D) args h k) (Nat.blt g unkU):=fun k=>rfl
    cases hb:Nat.blt g unkU with
    | true =>
      obtain ⟨r,h1,h2⟩:=fnS_ok hE hG hc hcall L g (blt_lt hb) args h
      exact ⟨r,fun k=>by rw [hsh,hb]; exact h1 k,fun p e=>⟨fun _=>h2 p e,fun q=>by have:=blt_lt hb; omega⟩⟩
    | false =>
      obtain ⟨r,h1,h2⟩:=roundK_ok hE hG hc hcall L (g-unkU) args h
      exact ⟨r,fun k=>by rw [hsh,hb]; exact h1 k,fun p e=>⟨fun q=>by have:=blt_ge hb; omega,fun _=>h2 p e⟩⟩
   refine ⟨fun g args h=>Classical.choose (H g args h),fun g args h k=>(Classical.choose_spec (H g args h)).1 k,fun h g args r h' e θ w cargs hr ha=>?_⟩
   obtain ⟨k1,k2⟩:=(Classical.choose_spec (H g args h)).2 (r,h') e
   exact ⟨fun q=>k1 q θ w cargs hr ha,fun q x hx=>k2 q θ w cargs hr ha x hx⟩
def kTrue (v:Value) (_:Hp):Prop:=isBool v False fun b=>Bool.rec (motive:=fun _=>Prop) False True b
theorem law_fast {E:Env} (hE:EnvOk E) {L D g:Nat} {fn:Func} (hfn:tget E.ff g=some fn) (hg:g<unkU) (hx:callK E L D g [] ⟨.nil,0⟩ kTrue=True) (w:World) :
 Calls E.P g #[] w fun e w'=>e = .returned (.bool true)/\Below w.heap.size w w':=by
 letI:=lgOf E
 obtain ⟨call,hc,hcall⟩:=callK_ok hE (lgOf_ok E) L D
 rw [hc] at hx
 cases hr:call g [] ⟨.nil,0⟩ with
 | none=>rw [hr] at hx; exact absurd (hx ▸ trivial:(k2 (none:Option (Value × Hp)) kTrue)) id
 | some p =>
   rw [hr] at hx
   have hp:p.1 = .bool true:=by
    have h1:kTrue p.1 p.2:=by
     have:k2 (some p) kTrue:=by rw [hx]; trivial
     exact this
    obtain ⟨v,h⟩:=p
    cases v<;>try exact False.elim h1
    rename_i b
    cases b
    .exact False.elim h1
    .rfl
   have hh:HR (fun _=>none) ⟨.nil,0⟩ w:=⟨fun n e x q=>(by cases q),fun n m e e' x y q=>(by cases q),fun _ _=>rfl⟩
   rcases (hcall ⟨.nil,0⟩ g [] p.1 p.2 hr (fun _=>none) w [] hh trivial).1 hg with ⟨_,h2⟩ | ⟨u,h1,_,_⟩
   .refine h2.mono fun e w' hq=>?_
    obtain ⟨θ',u,rfl,q1,q2,q3⟩:=hq
    rw [hp] at q3
    rw [W_plain rfl q3]
    exact ⟨rfl,q1.os,q1.tape,q1.output,q1.size,fun k hk=>q1.frame k hk fun n e x q=>by cases q⟩
   .exfalso
    obtain ⟨f1,f2,c',f3,_⟩:=hE.ff g fn hfn
    have f2' : ¬ fn.name = "runtime.NumGoroutine" := fun e => by rw [e] at f2; simp at f2
    simp [callFunc,f1,f2',f3] at h1
end Go.Ev
namespace Go.Ew
open Go.Ev Go.Deep
abbrev OA:=Option Addr
abbrev KH:=Nat->Option Ent
abbrev PQ:=Value->KH->Prop
inductive SV where
 | v (x:Value)
 | q (b:Bool)
 | r (t off:Nat)
def SV.val:SV->Option Value
 | .v x=>some x
 | .q b=>some (.bool b)
 | .r _ _=>none
abbrev TS:=BT (Option SV)
abbrev BX:=BT (Option (List Value))
def opS (T:TS):Operand->Option SV
 | .tmp t=>tget T t
 | .const x=>bif isPlain x then some (.v x) else none
 | .func f=>some (.v (.func (.func f) #[] #[]))
 | .global _=>none
def opW (T:TS) (x:Operand):Option Value:=match opS T x with
 | some s=>s.val
 | none=>none
def opWs (T:TS):List Operand->Option (List Value)
 | []=>some []
 | x :: l=>match opW T x with
   | none=>none
   | some v=>match opWs T l with
     | none=>none
     | some r=>some (v :: r)
def toSV:Value->SV
 | .bool b=>.q b
 | v=>.v v
inductive Sh where
 | int (k:IntKind)
 | bool
 | str
 | slice
 | ptr
 | fn
 | fix (v:Value)
 | fnk
 | fnf
 | yld
 | map
def shOf:Value->Sh
 | .int k _=>.int k
 | .bool _=>.bool
 | .string _=>.str
 | .slice _ _ _=>.slice
 | .pointer _=>.ptr
 | .nilFunc=>.fn
 | .map _=>.map
 | v=>.fix v
def exSh:Sh->(Value->Prop)->Prop
 | .int k,K=>∃ x:Int,K (.int k x)
 | .bool,K=>∃ b:Bool,K (.bool b)
 | .str,K=>∃ s:ByteArray,K (.string s)
 | .slice,K=>∃ (a:OA) (n c:Nat),K (.slice a n c)
 | .ptr,K=>∃ b o:Nat,K (.pointer (some ⟨b,o,none⟩))
 | .fn,K=>∃ g:Nat,K (.func (.func g) #[] #[])
 | .fix v,K=>K v
 | .fnk,K=>∃ (g:Nat) (k:List Value),K (.func (.func g) #[] k.toArray)
 | .fnf,K=>∃ (g:Nat) (k:List Value),K (.func (.func g) k.toArray #[])
 | .yld,K=>∃ l:Nat,K (.func (.yield l) #[] #[])
 | .map,K=>∃ n:Nat,K (.map (some n))
def boolsR (n:Nat) (f:Nat->Bool):List Value:=(List.range n).map fun i=>.bool (f i)
def intsR (k:IntKind) (n:Nat) (f:Nat->Int):List Value:=(List.range n).map fun i=>.int k (f i)
def runB:List Value->Nat
 | .bool _ :: l=>runB l+1
 | _=>0
def kindB (a b:IntKind):Bool:=match a,b with
 | .i8,.i8 | .i16,.i16 | .i32,.i32 | .i64,.i64 | .u8,.u8 | .u16,.u16 | .u32,.u32 | .u64,.u64=>true
 | _,_=>false
def runI (k:IntKind):List Value->Nat
 | .int k' _ :: l=>bif kindB k k' then runI k l+1 else 0
 | _=>0
def exShs1:List Value->(List Value->Prop)->Prop
 | [],K=>K []
 | z :: l,K=>exSh (shOf z) fun v=>exShs1 l fun vs=>K (v :: vs)
def exShsF:Nat->List Value->(List Value->Prop)->Prop
 | 0,l,K=>exShs1 l K
 | n+1,z :: l,K=>match z with
   | .bool _=>bif Nat.ble 64 (runB (z :: l)) then ∃ f:Nat->Bool,exShsF n ((z :: l).drop (runB (z :: l))) fun vs=>K (boolsR (runB (z :: l)) f++vs)
      else exSh (shOf z) fun v=>exShsF n l fun vs=>K (v :: vs)
   | .int k _=>bif Nat.ble 64 (runI k (z :: l)) then ∃ f:Nat->Int,exShsF n ((z :: l).drop (runI k (z :: l))) fun vs=>K (intsR k (runI k (z :: l)) f++vs)
      else exSh (shOf z) fun v=>exShsF n l fun vs=>K (v :: vs)
   | z=>exSh (shOf z) fun v=>exShsF n l fun vs=>K (v :: vs)
 | _,[],K=>K []
def exShs (zs:List Value) (K:List Value->Prop):Prop:=exShsF zs.length zs K
structure ld (H:KH) (a:Addr) (vs:List Value):Prop where
 spot:a.spot=none
 cells:∃ e,H a.block=some e/\rd e.cells a.off vs.length=some vs
structure KH.may (H:KH) (b:Nat):Prop where
 ex:∃ e,H b=some e/\wrB e=true
def KH.put (H:KH) (a:Addr) (vs:List Value):KH:=fun k=>if k=a.block then (H k).map fun e=>⟨wr e.cells a.off vs,e.len,e.unk,none⟩ else H k
def KH.new (H:KH) (nm:Nat) (e:Ent):KH:=fun k=>if k=nm then some e else H k
def KH.del (H:KH) (nm:Nat):KH:=fun k=>if k=nm then none else H k
def KH.load (H:KH) (a:Addr) (n:Nat):Option (List Value):=match a.spot,H a.block with
 | none,some e=>rd e.cells a.off n
 | _,_=>none
def kold (H:KH) (sz:Nat) (a:OA) (n:Nat):Option (List Value):=match a with
 | none=>bif Nat.beq n 0 then some [] else none
 | some a=>match a.spot with
   | none=>H.load a (n*sz)
   | some _=>bif Nat.beq n 0 then some [] else none
def knew (H:KH) (ti:TI):Value->Option (Nat × List Value)
 | .slice none n _=>bif Nat.beq n 0 then some (0,[]) else none
 | .slice (some a) n _=>ob (kold H ti.size (some a) n) fun cs=>some (n,cs)
 | .int .i64 n=>bif decide (0<=n)&&decide (n<=1000000) then some (n.toNat,lrep ti.zero n.toNat) else none
 | _=>none
def kstore (H:KH) (a:Addr) (vs:List Value):Option KH:=match a.spot,H a.block with
 | none,some e=>bif wrB e then match rd e.cells a.off vs.length with
    | some _=>some (H.put a vs)
    | none=>none
   else none
 | _,_=>none
def kappend (H:KH) (nm:Nat) (ti:TI) (a:OA) (len cap:Nat) (n:Nat) (new:List Value):Option (Value × KH) :=
 let need:=len+n
 bif Nat.ble need 1000000&&Nat.ble ti.bytes 1000000&&Nat.ble 1 ti.size then
  bif Nat.blt cap unkU then
   bif Nat.ble need cap then
    match a with
    | none=>bif Nat.beq need 0 then some (.slice none 0 cap,H) else none
    | some b=>ob (kstore H ⟨b.block,b.off+len*ti.size,b.spot⟩ new) fun H'=>some (.slice a need cap,H')
   else
    ob (kold H ti.size a len) fun old=>some (.slice (some ⟨nm,0,none⟩) need unkU,H.new nm (mkEnt (old++new) ti.size))
  else
   match a with
   | none=>none
   | some b=>match H b.block with
     | none=>none
     | some e =>
       bif Nat.beq e.unk ti.size&&Nat.beq b.off ((cap-unkU)*ti.size)&&b.spot.isNone&&wrB e then
        bif Nat.ble (b.off+need*ti.size) e.len then
         ob (kstore H ⟨b.block,b.off+len*ti.size,b.spot⟩ new) fun H'=>some (.slice a need cap,H')
        else
         ob (rd e.cells b.off (len*ti.size)) fun old =>
          some (.slice (some ⟨nm,0,none⟩) need unkU,(H.del b.block).new nm (mkEnt (old++new) ti.size))
       else none
 else none
def kcap (H:KH) (a:Addr) (cap sz:Nat):Option Nat :=
 bif Nat.blt cap unkU then some cap
 else match H a.block with
  | none=>none
  | some e=>bif Nat.beq e.unk sz&&Nat.beq a.off ((cap-unkU)*sz)&&Nat.ble 1 sz&&Nat.ble a.off e.len then some ((e.len-a.off)/sz) else none
def kslice (H:KH) (sz:Nat) (a:OA) (len cap:Nat) (lo hi:Option Value):Option Value:=match a with
 | none=>match natOf 0 lo,natOf len hi with
   | some 0,some 0=>some (.slice none 0 cap)
   | _,_=>none
 | some b=>bif b.spot.isNone then match natOf 0 lo,natOf len hi,kcap H b cap sz with
   | some l,some u,some c =>
     bif Nat.ble l u&&Nat.ble u c&&Nat.ble len c&&b.spot.isNone then
      bif Nat.blt cap unkU then some (.slice (some (bif Nat.beq cap l then b else ⟨b.block,b.off+l*sz,none⟩)) (u-l) (cap-l))
      else bif Nat.blt l c then some (.slice (some ⟨b.block,b.off+l*sz,none⟩) (u-l) (cap+l)) else bif Nat.beq l 0 then some (.slice a u cap) else some vague
     else none
   | _,_,_=>none
   else match natOf 0 lo,natOf len hi with
   | some 0,some 0=>some (.slice a 0 cap)
   | _,_=>none
structure Does (E:Env) (g:Nat) (args:List Value) (H:KH) (Q:PQ):Prop where
 lt:g<unkU
 run:∀ h:Hp,(∀ k,h.nxt<=k->tget h.m k=none)->(∀ k e,H k=some e->tget h.m k=some e)->
  ∃ v h' H',(∃ n,∀ m,n<=m->callA E (ev E m) g args h=some (v,h'))/\Q v H'/\
   (∀ k,h'.nxt<=k->tget h'.m k=none)/\(∀ k e,H' k=some e->tget h'.m k=some e)/\
   h.nxt<=h'.nxt/\(∀ k,k<h.nxt->H k=none->tget h'.m k=tget h.m k)/\(∀ k,H' k≠none->H k≠none\/h.nxt<=k)
structure DoesR (E:Env) (l:Nat) (args:List Value) (H:KH) (Q:PQ):Prop where
 run:∀ h:Hp,(∀ k,h.nxt<=k->tget h.m k=none)->(∀ k e,H k=some e->tget h.m k=some e)->
  ∃ v h' H',(∃ n,∀ m,n<=m->callA E (ev E m) (unkU+l) args h=some (v,h'))/\Q v H'/\
   (∀ k,h'.nxt<=k->tget h'.m k=none)/\(∀ k e,H' k=some e->tget h'.m k=some e)/\
   h.nxt<=h'.nxt/\(∀ k,k<h.nxt->H k=none->tget h'.m k=tget h.m k)/\(∀ k,H' k≠none->H k≠none\/h.nxt<=k)
def lpE (L:Lp) (st:Nat) (pend:Option Code):Ent:=⟨.nil,0,0,some (.loop ⟨L.fn,L.N,L.ps,L.asg,L.body,L.ts,st,pend⟩)⟩
structure FnIn (E:Env) (g:Nat):Prop where
 h:(tget E.ff g).isSome=true
inductive LV where
 | tmp (t:Nat) (s:Sh)
 | agg (t:Nat) (zs:List Value)
 | ref (t b off:Nat)
 | box (b:Nat) (zs:List Value)
structure WE where
 E:Env
 tup:BT (Option (List Nat))
 loc:List Nat
 lv:BT (Option (List LV))
 f:Nat
def askB (s:Option SV) (yes no:SV->Prop):Prop:=match s with
 | some (.v (.bool true))=>yes (.v (.bool true))
 | some (.v (.bool false))=>no (.v (.bool false))
 | some (.q b)=>(b=true->yes (.v (.bool true)))/\(b=false->no (.v (.bool false)))
 | _=>False
def cmpS (op:BinOp) (x y:Int) (K:SV->Prop):Prop:=match op with
 | .eql=>K (.q (decide (x=y)))
 | .neq=>K (.q (decide (x≠y)))
 | .lss=>K (.q (decide (x<y)))
 | .leq=>K (.q (decide (x<=y)))
 | .gtr=>K (.q (decide (y<x)))
 | .geq=>K (.q (decide (y<=x)))
 | _=>False
def andI (k:IntKind) (x y:Int):Int:=k.wrap (BitVec.ofInt k.bits x &&& BitVec.ofInt k.bits y).toNat
def orI (k:IntKind) (x y:Int):Int:=k.wrap (BitVec.ofInt k.bits x ||| BitVec.ofInt k.bits y).toNat
def binI (op:BinOp) (k:IntKind) (x y:Int) (K:SV->Prop):Prop:=match op with
 | .add=>K (.v (.int k (k.wrap (x+y))))
 | .sub=>K (.v (.int k (k.wrap (x-y))))
 | .mul=>K (.v (.int k (k.wrap (x*y))))
 | .quo=>y≠0/\K (.v (.int k (k.wrap (x.tdiv y))))
 | .rem=>y≠0/\K (.v (.int k (x.tmod y)))
 | .shr=>0<=y/\K (.v (.int k (x.fdiv (2 ^ (min y.toNat k.bits)))))
 | .shl=>0<=y/\K (.v (.int k (k.wrap (x*2 ^ (min y.toNat k.bits)))))
 | .and=>K (.v (.int k (andI k x y)))
 | .or=>K (.v (.int k (orI k x y)))
 | op=>cmpS op x y K
def shI (op:BinOp) (k:IntKind) (x y:Int) (K:SV->Prop):Prop:=match op with
 | .shr=>0<=y/\K (.v (.int k (x.fdiv (2 ^ (min y.toNat k.bits)))))
 | .shl=>0<=y/\K (.v (.int k (k.wrap (x*2 ^ (min y.toNat k.bits)))))
 | _=>False
def isKind (E:Env) (t:TypeId) (k:Nat):Bool:=match tget E.tt t with
 | some ti=>Nat.beq ti.kind k
 | none=>false
def strEq (x y:ByteArray):Bool:=x.toList == y.toList
def strLt (x y:ByteArray):Bool:=Op.bytesLess x.toList y.toList
def eqInts:List Value->List Value->Option Bool
 | [],[]=>some true
 | .int k a :: l,.int k' b :: m=>bif kindB k k' then (match eqInts l m with
   | some r=>some (decide (a=b)&&r)
   | none=>none) else none
 | _,_=>none
def arrK (E:Env) (t:TypeId) (n:Nat):Bool:=match tget E.tt t with
 | some ti=>Nat.beq ti.kind 2&&(Nat.beq ti.alen n&&(match tget E.tt ti.elem with
   | some ei=>(Nat.beq ei.kind 5||Nat.beq ei.kind 6)&&Nat.beq ei.size 1
   | none=>false))
 | none=>false
def eqC:Value->Value->Option Bool
 | .int k a,.int k' b=>bif kindB k k' then some (decide (a=b)) else none
 | .string a,.string b=>some (strEq a b)
 | .bool a,.bool b=>some (a == b)
 | _,_=>none
def eqCs:List Value->List Value->Option Bool
 | [],[]=>some true
 | x :: l,y :: m=>match eqC x y with
   | some r=>(match eqCs l m with
     | some s=>some (r&&s)
     | none=>none)
   | none=>none
 | _,_=>none
def fitC:Option TypeDesc->Value->Bool
 | some (.int _),.int _ _=>true
 | some .string,.string _=>true
 | some .bool,.bool _=>true
 | _,_=>false
def fldC (P:Program):List Field->Nat->List Value->Bool
 | [],_,[]=>true
 | f :: l, i, x :: xs => Nat.beq f.offset i && (!(f.name == "_") && (fitC (P.underlying f.type) x && fldC P l (i + 1) xs))
 | _,_,_=>false
def strK (P:Program) (t:TypeId) (xs:List Value):Bool:=match P.underlying t with
 | some (.struct fs)=>!(P.stoodInHeld t)&&fldC P fs.toList 0 xs
 | _=>false
def arrC (E:Env) (t:TypeId) (xs:List Value):Bool:=match tget E.tt t with
 | some ti=>Nat.beq ti.kind 2&&(Nat.beq ti.alen xs.length&&(match tget E.tt ti.elem with
   | some ei=>Nat.beq ei.size 1&&xs.all (fitC (E.P.underlying ti.elem))
   | none=>false))
 | none=>false
def eqArr (op:BinOp) (r:Option Bool) (K:SV->Prop):Prop:=match r with
 | some r=>(match op with
   | .eql=>K (.q r)
   | .neq=>K (.q (!r))
   | _=>False)
 | none=>False
def binS (E:Env) (op:BinOp) (t:TypeId) (a b:Option Value) (K:SV->Prop):Prop:=match a,b with
 | some (.int k x),some (.int l y)=>bif kindB k l then binI op k x y K else shI op k x y K
 | some (.bool x),some (.bool y)=>bif isKind E t 9 then (match op with
   | .eql=>K (.q (x == y))
   | .neq=>K (.q (!(x == y)))
   | _=>False) else False
 | some (.string x),some (.string y)=>match op with
   | .eql=>K (.q (strEq x y))
   | .neq=>K (.q (!(strEq x y)))
   | .lss=>K (.q (strLt x y))
   | .leq=>K (.q (strLt x y||strEq x y))
   | .gtr=>K (.q (!(strLt x y||strEq x y)))
   | .geq=>K (.q (!(strLt x y)))
   | .add=>(x.size+y.size<=1000000)/\K (.v (.string (x++y)))
   | _=>False
 | some (.slice x _ _),some (.slice none _ _)=>bif isKind E t 1 then (match op with
   | .eql=>K (.q x.isNone)
   | .neq=>K (.q (!x.isNone))
   | _=>False) else False
 | some (.agg xs),some (.agg ys)=>bif arrK E t xs.toList.length then eqArr op (eqInts xs.toList ys.toList) K else bif strK E.P t xs.toList then eqArr op (eqCs xs.toList ys.toList) K else bif arrC E t xs.toList then eqArr op (eqCs xs.toList ys.toList) K else False
 | _,_=>False
def wIdx (W:WE) (T:TS) (t:TypeId) (x ix:Operand) (K:SV->Prop):Prop:=match opW T x,opW T ix,tget W.E.tt t with
 | some (.slice a len _),some (.int _ i),some ti=>match tget W.E.tt ti.elem with
   | some ei=>bif Nat.beq ti.kind 1 then (0<=i/\i<len)/\∃ b o,a=some ⟨b,o,none⟩/\K (.v (.pointer (some ⟨b,o+i.toNat*ei.size,none⟩))) else False
   | none=>False
 | some (.pointer (some ad)),some (.int _ i),some ti=>match tget W.E.tt ti.elem with
   | some ei=>bif Nat.beq ti.kind 2 then (0<=i/\i<ti.alen)/\ad.spot=none/\K (.v (.pointer (some ⟨ad.block,ad.off+i.toNat*ei.size,none⟩))) else False
   | none=>False
 | _,_,_=>False
def intOf (d:Int):Option Value->Option Int
 | none=>some d
 | some (.int _ i)=>some i
 | some _=>none
def strCut (s:ByteArray) (l u:Int):ByteArray:=s.extract l.toNat u.toNat
def byteAt (s:ByteArray) (i:Nat):Int:=((s.data.toList[i]?).getD 0).toNat
def wField (W:WE) (T:TS) (s:TypeId) (x:Operand) (f:Nat) (K:SV->Prop):Prop:=match tget W.E.tt s with
 | none=>False
 | some ti=>match ti.flds[f]? with
   | none=>False
   | some fl=>bif Nat.beq ti.kind 3&&!(Nat.beq fl.2 0) then
      match opS T x with
      | some (.r b off)=>K (.r b (off+fl.1))
      | some (.v (.pointer (some ad)))=>ad.spot=none/\K (.v (.pointer (some ⟨ad.block,ad.off+fl.1,none⟩)))
      | _=>False
     else False
def ldSh (W:WE):Value->Sh
 | .nilFunc=>(match tget W.lv 3000000 with
   | some _=>.yld
   | none=>.fn)
 | z=>shOf z
def wLoad (W:WE) (T:TS) (B:BX) (H:KH) (t:TypeId) (a:Operand) (K:SV->Prop):Prop:=match opS T a,tget W.E.tt t with
 | some (.r b off),some ti=>match tget B b with
   | none=>False
   | some cs=>bif Nat.ble (off+ti.size) cs.length then
      (bif ti.agg then K (.v (.agg ((cs.drop off).take ti.size).toArray)) else match cs[off]? with
        | some v=>K (toSV v)
        | none=>False)
     else False
 | some (.v (.pointer (some ad))),some ti=>bif ti.agg then (bif Nat.beq ti.zero.length ti.size then exShs ti.zero fun vs=>ld H ad vs/\K (.v (.agg vs.toArray)) else False) else (match ti.zero with
    | [z]=>exSh (ldSh W z) fun v=>ld H ad [v]/\K (toSV v)
    | _=>False)
 | _,_=>False
def wStore (W:WE) (T:TS) (B:BX) (H:KH) (t:TypeId) (a x:Operand) (K:BX->KH->Prop):Prop:=match opS T a,opW T x,tget W.E.tt t with
 | some (.r b off),some v,some ti=>match tget B b,cellsA v with
   | some cs,some vs=>bif Nat.beq vs.length ti.size&&Nat.ble (off+vs.length) cs.length then K (tset B b (some (lput cs off vs))) H else False
   | _,_=>False
 | some (.v (.pointer (some ad))),some v,some ti=>match cellsA v with
   | some vs=>bif Nat.beq vs.length ti.size then (∃ ws:List Value,ws.length=vs.length/\ld H ad ws)/\H.may ad.block/\K B (H.put ad vs) else False
   | none=>False
 | _,_,_=>False
def opWo (T:TS):Option Operand->Option (Option Value)
 | none=>some none
 | some x=>match opW T x with
   | some v=>some (some v)
   | none=>none
def wRes (W:WE) (t:TypeId) (v:Value) (K:SV->Prop):Prop:=match tget W.tup t with
 | some []=>v = .tuple #[]/\K (.v (.tuple #[]))
 | some ts=>go ts [] K
 | none=>match tget W.E.tt t with
   | none=>False
   | some ti=>bif ti.agg then exShs ti.zero fun vs=>v = .agg vs.toArray/\K (.v (.agg vs.toArray)) else (match ti.zero with
     | [z]=>exSh (bif Nat.beq ti.kind 8 then .fnk else shOf z) fun u=>v=u/\K (toSV u)
     | _=>False)
 where go:List Nat->List Value->(SV->Prop)->Prop
 | [],acc,K=>v = .tuple acc.reverse.toArray/\K (.v (.tuple acc.reverse.toArray))
 | t :: l,acc,K=>match tget W.E.tt t with
   | none=>False
   | some ti=>bif ti.agg then exShs ti.zero fun vs=>go l (.agg vs.toArray :: acc) K else (match ti.zero with
     | [z]=>exSh (shOf z) fun u=>go l (u :: acc) K
     | _=>False)
def wBuiltin (W:WE) (b:Builtin) (tys:List TypeId) (args:List Value) (H:KH) (nm:(Nat->Prop)->Prop) (K:SV->KH->Prop):Prop:=match b,args with
 | .len,[.slice _ n _]=>match tys with
   | [t]=>match tget W.E.tt t with
     | some ti=>bif Nat.beq ti.kind 1 then K (.v (.int .i64 n)) H else False
     | none=>False
   | _=>False
 | .len,[.string s]=>match tys with
   | [t]=>match tget W.E.tt t with
     | some ti=>bif Nat.beq ti.kind 4 then K (.v (.int .i64 s.size)) H else False
     | none=>False
   | _=>False
 | .cap,[.slice _ _ c]=>match tys with
   | [t]=>match tget W.E.tt t with
     | some ti=>bif Nat.beq ti.kind 1 then c<unkU/\K (.v (.int .i64 c)) H else False
     | none=>False
   | _=>False
 | .min,[.int k x,.int _ y]=>K (.v (.int k (min x y))) H
 | .max,[.int k x,.int _ y]=>K (.v (.int k (max x y))) H
 | .append,[.slice a len cap,x]=>match tys with
   | [t,u]=>match tget W.E.tt t,tget W.E.tt u with
     | some ti,some ui=>match tget W.E.tt ti.elem with
       | some ei=>bif Nat.beq ti.kind 1&&appK ui.kind x&&Nat.beq ei.zero.length ei.size then
          nm fun nm=>∃ n cs,knew H ei x=some (n,cs)/\∃ a' l' c' H',kappend H nm ei a len cap n cs=some (.slice a' l' c',H')/\K (.v (.slice a' l' c')) H'
         else False
       | none=>False
     | _,_=>False
   | _=>False
 | _,_=>False
def partsS (T:TS) (pl:Nat->Option (Nat × Nat)):List (Nat × Operand)->Option (List (Nat × Nat × Value))
 | []=>some []
 | (i,x) :: l=>match pl i,opW T x,partsS T pl l with
  | some (off,sz),some v,some r=>some ((off,sz,v) :: r)
  | _,_,_=>none
def wBuild (W:WE) (T:TS) (t:TypeId) (parts:List (Nat × Operand)) (K:SV->Prop):Prop:=match tget W.E.tt t with
 | none=>False
 | some ti=>bif Nat.beq ti.kind 3 then
    match partsS T (fun i=>ti.flds[i]?) parts with
    | some ps=>match fillA ti.zero ps with
      | some cs=>K (.v (.agg cs.toArray))
      | none=>False
    | none=>False
   else bif Nat.beq ti.kind 2 then
    match tget W.E.tt ti.elem with
    | none=>False
    | some ei=>match partsS T (fun i=>some (i*ei.size,ei.size)) parts with
      | some ps=>match fillA ti.zero ps with
        | some cs=>K (.v (.agg cs.toArray))
        | none=>False
      | none=>False
   else False
def wBuildSlice (W:WE) (T:TS) (t:TypeId) (len:Nat) (parts:List (Nat × Operand)) (K:List Value->Prop):Prop:=match tget W.E.tt t with
 | none=>False
 | some ti=>match tget W.E.tt ti.elem with
   | none=>False
   | some ei=>bif Nat.beq ti.kind 1&&Nat.ble (len*ei.size) 16777216&&Nat.ble len 16777216&&Nat.beq ei.zero.length ei.size then
      match partsS T (fun i=>some (i*ei.size,ei.size)) parts with
      | some ps=>match fillA (lrep ei.zero len) ps with
        | some cs=>K cs
        | none=>False
      | none=>False
     else False
def purge (d:Nat) (T:TS):TS:=match T with
 | .nil=>.nil
 | .node a b x l r=>.node a b (match x with
    | some (.r t o)=>bif Nat.beq t d then none else some (.r t o)
    | x=>x) (purge d l) (purge d r)
def isLoc (W:WE) (d:Option Tmp):Option Nat:=match d with
 | none=>none
 | some d=>bif memN d W.loc then some d else none
def mpE (es:List (Value × Value)):Ent:=⟨.nil,0,0,some (.mp es)⟩
def bldE (T e me:Nat) (buf:Option (Nat × Nat)):Ent:=⟨.nil,0,0,some (.bld T e me buf)⟩
def bytE (e me:Nat) (s:ByteArray):Ent:=⟨.nil,0,0,some (.byt e me s)⟩
structure mpAt (H:KH) (n:Nat) (es:List (Value × Value)):Prop where
 h:H n=some (mpE es)
structure NoKey (E:Env) (kt et:TypeId) (es:List (Value × Value)) (k z:Value):Prop where
 good:keyGood E.P es.isEmpty kt k=true
 find:kFind E.P kt k es 0=some none
 zero:srun E.P (zeroValue et)=some z
structure HasKey (E:Env) (kt:TypeId) (es:List (Value × Value)) (k v:Value):Prop where
 good:keyGood E.P es.isEmpty kt k=true
 find:∃ i,kFind E.P kt k es 0=some (some (i,v))
structure UpdIs (E:Env) (kt:TypeId) (es:List (Value × Value)) (k v:Value) (es':List (Value × Value)):Prop where
 good:keyGood E.P false kt k=true
 is:(kFind E.P kt k es 0=some none/\es'=es++[(k,v)])\/∃ i u p,kFind E.P kt k es 0=some (some (i,u))/\es[i]? = some p/\Instr.sameBits 10000 p.1 k=true/\es'=es.set i (k,v)
def wLook (W:WE) (H:KH) (t:TypeId) (x ix:Option Value) (ok:Bool) (K:SV->Prop):Prop:=match x,ix,tget W.E.tt t with
 | some (.map (some n)),some k,some mt=>match tget W.E.tt mt.elem with
   | some ei=>bif Nat.beq mt.kind 10&&!ei.agg then (match ei.zero with
     | [z]=>∃ es,mpAt H n es/\((NoKey W.E mt.alen mt.elem es k z/\bif ok then K (.v (.tuple #[z,.bool false])) else K (toSV z))\/
        exSh (shOf z) fun v=>HasKey W.E mt.alen es k v/\bif ok then K (.v (.tuple #[v,.bool true])) else K (toSV v))
     | _=>False) else False
   | none=>False
 | _,_,_=>False
def wUpd (W:WE) (H:KH) (t:TypeId) (m k x:Option Value) (K:KH->Prop):Prop:=match m,k,x,tget W.E.tt t with
 | some (.map (some n)),some k,some v,some mt=>bif Nat.beq mt.kind 10&&!(isTup v) then
    ∃ es es',mpAt H n es/\UpdIs W.E mt.alen es k v es'/\K (H.new n (mpE es'))
   else False
 | _,_,_,_=>False
structure atC (l:List Value) (i:Int) (v:Value):Prop where
 h:l[i.toNat]? = some v
def wOp (W:WE) (nm:(Nat->Prop)->Prop) (o:Oper) (T:TS) (B:BX) (H:KH) (K:TS->SV->BX->KH->Prop):Prop:=match o.op with
 | .move x=>match opS T x with
   | some s=>K T s B H
   | none=>False
 | .assign x=>match opS T x with
   | some s=>K T s B H
   | none=>False
 | .pick c a b=>askB (opS T c) (fun _=>match opS T a with
    | some s=>K T s B H
    | none=>False) (fun _=>match opS T b with
    | some s=>K T s B H
    | none=>False)
 | .alloc t=>match tget W.E.tt t with
   | none=>False
   | some ti=>match bldK W.E t with
     | none=>(match isLoc W o.dst with
       | some d=>K (purge d T) (.r d 0) (tset B d (some ti.zero)) H
       | none=>nm fun nm=>K T (.v (.pointer (some ⟨nm,0,none⟩))) B (H.new nm (mkEnt ti.zero 0)))
     | some e=>bif isBld0 ti.zero then nm fun nm=>K T (.v (.pointer (some ⟨nm,0,none⟩))) B (H.new nm (bldE t e nm none)) else False
 | .box _ x=>match opW T x with
   | none=>False
   | some v=>match cellsA v with
     | none=>False
     | some cs=>match isLoc W o.dst with
       | some d=>K (purge d T) (.r d 0) (tset B d (some cs)) H
       | none=>nm fun nm=>K T (.v (.pointer (some ⟨nm,0,none⟩))) B (H.new nm (mkEnt cs 0))
 | .build t parts=>wBuild W T t parts.toList fun s=>K T s B H
 | .buildSlice t len parts=>wBuildSlice W T t len parts.toList fun cs=>nm fun nm=>K T (.v (.slice (some ⟨nm,0,none⟩) len len)) B (H.new nm (mkEnt cs 0))
 | .load t a=>wLoad W T B H t a fun s=>K T s B H
 | .store t a x=>wStore W T B H t a x fun B H=>K T (.v undefV) B H
 | .nilCheck x=>match opS T x with
   | some (.r b o)=>K T (.r b o) B H
   | some (.v (.pointer (some ad)))=>K T (.v (.pointer (some ad))) B H
   | _=>False
 | .binOp op t x y _=>binS W.E op t (opW T x) (opW T y) fun s=>K T s B H
 | .unOp op _ x=>match op,opW T x with
   | .not,some (.bool b)=>K T (.q (!b)) B H
   | .neg,some (.int k n)=>K T (.v (.int k (k.wrap (0-n)))) B H
   | _,_=>False
 | .convert s d x=>match opW T x,W.E.P.underlying s,W.E.P.underlying d with
   | some (.int _ n),some _,some (.int k)=>K T (.v (.int k (k.wrap n))) B H
   | some (.slice a len _),_,_=>match tget W.E.tt d,tget W.E.tt s with
     | some ti,some si=>match tget W.E.tt si.elem with
       | some ei=>bif Nat.beq ti.kind 4&&Nat.beq si.kind 1&&Nat.beq ei.kind 6 then
          ∃ (cs:List Value) (bs:List UInt8),kold H 1 a len=some cs/\bytesOfCells cs=some bs/\K T (.v (.string ⟨bs.toArray⟩)) B H
         else False
       | none=>False
     | _,_=>False
   | _,_,_=>False
 | .makeFunc fn first cap=>match fn,opWs T first.toList,opWs T cap.toList with
   | .func g,some vs,some us=>bif vs.all capOk&&us.all capOk then K T (.v (.func (.func g) vs.toArray us.toArray)) B H else False
   | _,_,_=>False
 | .makeSlice t l c=>match opW T l,opW T c,tget W.E.tt t with
   | some (.int _ n),some (.int _ k),some ti=>match tget W.E.tt ti.elem with
     | some ei=>bif Nat.beq ti.kind 1&&Nat.ble ei.bytes 1000000&&Nat.beq ei.zero.length ei.size then
        (0<=n/\n<=k/\k<=1000000)/\nm fun nm=>K T (.v (.slice (some ⟨nm,0,none⟩) n.toNat k.toNat)) B (H.new nm (mkEnt (lrep ei.zero k.toNat) 0))
       else False
     | none=>False
   | _,_,_=>False
 | .slice t x lo hi mx=>match opW T x,tget W.E.tt t,opWo T lo,opWo T hi,mx with
   | some (.slice a len cap),some ti,some lo,some hi,none=>match tget W.E.tt ti.elem with
     | some ei=>bif Nat.beq ti.kind 1 then ∃ a' l' c',kslice H ei.size a len cap lo hi=some (.slice a' l' c')/\K T (.v (.slice a' l' c')) B H else False
     | none=>False
   | some (.string s),some _,some lo,some hi,none=>match intOf 0 lo,intOf s.size hi,W.E.P.underlying t with
     | some l,some u,some .string=>(0<=l/\l<=u/\u<=s.size)/\K T (.v (.string (strCut s l u))) B H
     | _,_,_=>False
   | some (.pointer (some ad)),some ti,some none,some hi,none=>match tget W.E.tt ti.elem,intOf ti.alen hi with
     | some _,some u=>bif Nat.beq ti.kind 2&&Nat.blt ti.alen unkU then ad.spot=none/\(0<=u/\u<=ti.alen)/\K T (.v (.slice (some ⟨ad.block,ad.off,none⟩) u.toNat ti.alen)) B H else False
     | _,_=>False
   | _,_,_,_,_=>False
 | .fieldAddr s x f=>wField W T s x f fun s=>K T s B H
 | .indexAddr t x ix=>wIdx W T t x ix fun s=>K T s B H
 | .index t x ix=>match opW T x,opW T ix,W.E.P.underlying t with
   | some (.string s),some (.int _ i),some .string=>(0<=i/\i<s.size)/\K T (.v (.int .u8 (byteAt s i.toNat))) B H
   | some (.agg cs),some (.int _ i),some (.array n e)=>match tget W.E.tt e with
     | some ei=>(match ei.zero with
       | [z]=>bif Nat.beq ei.size 1&&!ei.agg&&allPlain cs.toList then (0<=i/\i<n)/\exSh (shOf z) fun v=>atC cs.toList i v/\K T (toSV v) B H else False
       | _=>False)
     | none=>False
   | _,_,_=>False
 | .extract t i=>match opW T t with
   | some (.tuple vs)=>match vs.toList[i]? with
     | some v=>K T (toSV v) B H
     | none=>False
   | _=>False
 | .field t x f=>match opW T x with
   | some (.agg cs)=>match fldA W.E t cs.toList f with
     | some v=>K T (toSV v) B H
     | none=>False
   | _=>False
 | .makeMap _ r=>match r with
   | none=>nm fun nm=>K T (.v (.map (some nm))) B (H.new nm (mpE []))
   | some _=>False
 | .lookup t x ix ok=>wLook W H t (opW T x) (opW T ix) ok fun s=>K T s B H
 | .mapUpdate t m k x=>wUpd W H t (opW T m) (opW T k) (opW T x) fun H=>K T (.v undefV) B H
 | .call c=>match c.callee with
   | .value f=>match opW T f,opWs T c.args.toList with
     | some (.func (.func g) first cap),some vs=>Does W.E g (first.toList++vs++cap.toList) H fun v H'=>wRes W o.type v fun s=>K T s B H'
     | some (.func (.yield l) _ _),some vs=>DoesR W.E l vs H fun v H'=>wRes W o.type v fun s=>K T s B H'
     | _,_=>False
   | .builtin b=>match opWs T c.args.toList with
     | some vs=>wBuiltin W b c.argTypes.toList vs H nm fun s H'=>K T s B H'
     | none=>False
   | .invoke r name=>match opW T r,opWs T c.args.toList with
     | some (.iface t x),some vs=>match tget W.E.tt t,methOf W.E.P t name with
       | some ti,some g=>bif Nat.ble 1 ti.kind&&!(Nat.beq ti.kind 7) then Does W.E g (x :: vs) H fun v H'=>wRes W o.type v fun s=>K T s B H' else False
       | _,_=>False
     | _,_=>False
 | .makeInterface t x=>match opW T x,tget W.E.tt t with
   | some v,some ti=>bif ifaOk v&&Nat.ble 1 ti.kind then K T (.v (.iface t v)) B H else False
   | _,_=>False
 | _=>False
def putS (T:TS) (dst:Option Tmp) (s:SV):TS:=match dst with
 | none=>T
 | some d=>tset T d (some s)
def isUndef:Option SV->Bool
 | some (.v (.tuple vs))=>Nat.beq vs.toList.length 0
 | _=>false
def wWant (ops:Array Oper) (o:Oper) (T:TS) (yes no:TS->Prop):Prop:=match o.guard with
 | none=>yes T
 | some (j,want)=>match (ops[j]?).bind (·.dst) with
   | none=>False
   | some d=>bif isUndef (tget T d) then no T else match want with
     | true=>askB (tget T d) (fun s=>yes (tset T d (some s))) (fun s=>no (tset T d (some s)))
     | false=>askB (tget T d) (fun s=>no (tset T d (some s))) (fun s=>yes (tset T d (some s)))
def strArg (W:WE) (o:Oper) (T:TS):Option ByteArray:=match o.op with
 | .convert s d x=>match opW T x with
   | some (.string b)=>match tget W.E.tt d,tget W.E.tt s with
     | some ti,some _=>bif Nat.beq ti.kind 1 then (match tget W.E.tt ti.elem with
       | some ei=>bif Nat.beq ei.kind 6&&Nat.beq ei.size 1 then some b else none
       | none=>none) else none
     | _,_=>none
   | _=>none
 | _=>none
def wOpB (W:WE) (nm:(Nat->Prop)->Prop) (o:Oper) (T:TS) (B:BX) (H:KH) (K:TS->SV->BX->KH->Prop):Prop:=match strArg W o T with
 | some s=>s.size<=1000000/\nm fun nm=>K T (.v (.slice (some ⟨nm,0,none⟩) s.size unkU)) B (H.new nm (mkEnt (byteCells s) 1))
 | none=>wOp W nm o T B H K
def anyNm (H:KH) (k:Nat->Prop):Prop:=∀ nm,H nm=none->k nm
def wOps (W:WE) (ops:Array Oper):List Oper->TS->BX->KH->(TS->BX->KH->Prop)->Prop
 | [],T,B,H,K=>K T B H
 | o :: l,T,B,H,K=>wWant ops o T
    (fun T=>wOpB W (anyNm H) o T B H fun T s B H=>wOps W ops l (putS T o.dst s) B H K)
    (fun T=>wOps W ops l (putS T o.dst (.v undefV)) B H K)
def ShT:Sh->Type->Type
 | .int _,R=>Int->R
 | .bool,R=>Bool->R
 | .str,R=>ByteArray->R
 | .slice,R=>OA->Nat->Nat->R
 | .ptr,R=>Nat->Nat->R
 | .fn,R=>Nat->R
 | .fix _,R=>R
 | .fnk,R=>Nat->List Value->R
 | .fnf,R=>Nat->List Value->R
 | .yld,R=>Nat->R
 | .map,R=>Nat->R
def ShsT:List Value->Type->Type
 | [],R=>R
 | z :: l,R=>ShT (shOf z) (ShsT l R)
def IT:List LV->Type
 | []=>KH->Prop
 | .tmp _ s :: l=>ShT s (IT l)
 | .agg _ zs :: l=>ShsT zs (IT l)
 | .ref _ _ _ :: l=>IT l
 | .box _ zs :: l=>ShsT zs (IT l)
def bindS (R:Type):(s:Sh)->ShT s R->(Value->R->Prop)->Prop
 | .int k,f,K=>∀ x:Int,K (.int k x) (f x)
 | .bool,f,K=>∀ b:Bool,K (.bool b) (f b)
 | .str,f,K=>∀ s:ByteArray,K (.string s) (f s)
 | .slice,f,K=>∀ (a:OA) (n c:Nat),K (.slice a n c) (f a n c)
 | .ptr,f,K=>∀ b o:Nat,K (.pointer (some ⟨b,o,none⟩)) (f b o)
 | .fn,f,K=>∀ g:Nat,K (.func (.func g) #[] #[]) (f g)
 | .fix v,f,K=>K v f
 | .fnk,f,K=>∀ (g:Nat) (k:List Value),K (.func (.func g) #[] k.toArray) (f g k)
 | .fnf,f,K=>∀ (g:Nat) (k:List Value),K (.func (.func g) k.toArray #[]) (f g k)
 | .yld,f,K=>∀ l:Nat,K (.func (.yield l) #[] #[]) (f l)
 | .map,f,K=>∀ n:Nat,K (.map (some n)) (f n)
def bindSs (R:Type):(zs:List Value)->ShsT zs R->(List Value->R->Prop)->Prop
 | [],f,K=>K [] f
 | z :: l,f,K=>bindS (ShsT l R) (shOf z) f fun v f=>bindSs R l f fun vs f=>K (v :: vs) f
def bindL:(l:List LV)->IT l->TS->BX->((KH->Prop)->TS->BX->Prop)->Prop
 | [],I,T,B,K=>K I T B
 | .tmp t s :: l,I,T,B,K=>bindS (IT l) s I fun v I=>bindL l I (tset T t (some (toSV v))) B K
 | .agg t zs :: l,I,T,B,K=>bindSs (IT l) zs I fun vs I=>bindL l I (tset T t (some (.v (.agg vs.toArray)))) B K
 | .ref t b o :: l,I,T,B,K=>bindL l I (tset T t (some (.r b o))) B K
 | .box b zs :: l,I,T,B,K=>bindSs (IT l) zs I fun vs I=>bindL l I T (tset B b (some vs)) K
def fixB:Value->Value->Bool
 | .nilIface,.nilIface=>true
 | .nilFunc,.nilFunc=>true
 | _,_=>false
def useS (R:Type):(s:Sh)->ShT s R->Value->(R->Prop)->Prop
 | .int k,f,.int k' x,K=>bif kindB k k' then K (f x) else False
 | .bool,f,.bool b,K=>K (f b)
 | .str,f,.string s,K=>K (f s)
 | .slice,f,.slice a n c,K=>K (f a n c)
 | .ptr,f,.pointer (some ad),K=>ad.spot=none/\K (f ad.block ad.off)
 | .fn,f,.func (.func g) a b,K=>bif Nat.beq a.toList.length 0&&Nat.beq b.toList.length 0 then K (f g) else False
 | .fix v,f,u,K=>bif fixB v u then K f else False
 | .fnk,f,.func (.func g) a b,K=>bif Nat.beq a.toList.length 0 then K (f g b.toList) else False
 | .fnf,f,.func (.func g) a b,K=>bif Nat.beq b.toList.length 0 then K (f g a.toList) else False
 | .yld,f,.func (.yield l) a b,K=>bif Nat.beq a.toList.length 0&&Nat.beq b.toList.length 0 then K (f l) else False
 | .map,f,.map (some n),K=>K (f n)
 | _,_,_,_=>False
def useSs (R:Type):(zs:List Value)->ShsT zs R->List Value->(R->Prop)->Prop
 | [],f,[],K=>K f
 | z :: l,f,v :: vs,K=>useS (ShsT l R) (shOf z) f v fun f=>useSs R l f vs K
 | _,_,_,_=>False
def useL:(l:List LV)->IT l->TS->BX->KH->Prop
 | [],I,_,_,H=>I H
 | .tmp t s :: l,I,T,B,H=>match opW T (.tmp t) with
   | some v=>useS (IT l) s I v fun I=>useL l I T B H
   | none=>False
 | .agg t zs :: l,I,T,B,H=>match opW T (.tmp t) with
   | some (.agg cs)=>useSs (IT l) zs I cs.toList fun I=>useL l I T B H
   | _=>False
 | .ref t b o :: l,I,T,B,H=>match tget T t with
   | some (.r b' o')=>bif Nat.beq b b'&&Nat.beq o o' then useL l I T B H else False
   | _=>False
 | .box b zs :: l,I,T,B,H=>match tget B b with
   | some cs=>useSs (IT l) zs I cs fun I=>useL l I T B H
   | none=>False
def okS0:Value->Bool
 | .bool _ | .int _ _ | .string _ | .pointer _ | .slice _ _ _ | .nilFunc | .nilIface | .map _=>true
 | _=>false
def okV:Value->Bool
 | .agg cs=>cs.toList.all okS0
 | .func (.func _) a b=>a.toList.all okS0&&b.toList.all okS0
 | v=>okS0 v
def sameS:SV->Option SV->Prop
 | .v x,some (.v y)=>bif okV y then x=y else False
 | .v x,some (.q b)=>x = .bool b
 | .q a,some (.q b)=>a=b
 | .q a,some (.v y)=>bif okV y then Value.bool a=y else False
 | .r b o,some (.r b' o')=>b=b'/\o=o'
 | _,_=>False
def noNm (_:Nat->Prop):Prop:=False
def wRe (W:WE) (ops:Array Oper) (T:TS) (B:BX) (H:KH):List Nat->Prop
 | []=>True
 | i :: l=>match ops[i]? with
   | none=>False
   | some o=>(bif silB o.op then wWant ops o T (fun T=>wOp W noNm o T B H fun _ s _ _=>match o.dst with
      | some d=>sameS s (tget T d)
      | none=>True) (fun T=>match o.dst with
      | some d=>bif isUndef (tget T d) then True else False
      | none=>True) else False)/\wRe W ops T B H l
def nameOf:SV->Option Nat
 | .v (.pointer (some ad))=>some ad.block
 | .v (.slice (some ad) _ _)=>some ad.block
 | _=>none
def addNm (o:Oper) (i:Nat) (s:SV) (A:List (Nat × Nat)):List (Nat × Nat):=bif allB o.op then (match nameOf s with
 | some nm=>(i,nm) :: A
 | none=>A) else A
def wPre (W:WE) (ops:Array Oper):List Nat->List Nat->List (Nat × Nat)->TS->BX->KH->(List Nat->List (Nat × Nat)->TS->BX->KH->Prop)->Prop
 | [],X,A,T,B,H,K=>K X A T B H
 | i :: l,X,A,T,B,H,K=>match ops[i]? with
   | none=>False
   | some o=>bif (silB o.op||allB o.op)&&!(memN i X) then wWant ops o T
      (fun T=>wOp W (anyNm H) o T B H fun T s B H=>wPre W ops l (i :: X) (addNm o i s A) (putS T o.dst s) B H K)
      (fun T=>wPre W ops l (i :: X) A (putS T o.dst (.v undefV)) B H K) else False
def hidden (hide:List Nat):List (Nat × Nat)->List Nat
 | []=>[]
 | (i,nm) :: l=>bif memN i hide then nm :: hidden hide l else hidden hide l
def hideK (H:KH):List Nat->KH
 | []=>H
 | n :: l=>(hideK H l).del n
def backK (H:KH) (H':KH):List Nat->KH
 | []=>H'
 | n :: l=>fun k=>if k=n then H n else backK H H' l k
def loudOk (ops:Array Oper) (T:TS) (o:Oper) (hide:List Nat):Bool:=(hide.all fun i=>Nat.blt i ops.size)&&match o.op with
 | .store _ a _=>match opS T a with
   | some (.r b _)=>hide.all fun i=>match (ops[i]?).bind (·.dst) with
     | some d=>!(Nat.beq d b)
     | none=>true
   | _=>true
 | .call _=>true
 | .makeMap _ _=>true
 | .mapUpdate _ _ _ _=>true
 | _=>false
def avoid (H:KH):List Nat->Prop->Prop
 | [],p=>p
 | n :: l,p=>H n=none->avoid H l p
def wStages (W:WE) (ops:Array Oper):List Stage->List Nat->List (Nat × Nat)->TS->BX->KH->(TS->BX->KH->Prop)->Prop
 | [],_,_,T,B,H,K=>K T B H
 | s :: l,X,A,T,B,H,K=>wRe W ops T B H s.re/\wPre W ops s.pre X A T B H fun X A T B H=>match s.loud with
   | none=>match l with
     | []=>K T B H
     | _=>False
   | some i=>match ops[i]? with
     | none=>False
     | some o=>wWant ops o T
        (fun T=>bif loudOk ops T o s.hide then wOp W (anyNm H) o T B (hideK H (hidden s.hide A)) fun T' sv B' H'=>avoid H' (hidden s.hide A) (wStages W ops l X A (putS T' o.dst sv) B' (backK H H' (hidden s.hide A)) K) else False)
        (fun T=>wStages W ops l X A (putS T o.dst (.v undefV)) B H K)
def allSh:Sh->(Value->Prop)->Prop
 | .int k,K=>∀ x:Int,K (.int k x)
 | .bool,K=>∀ b:Bool,K (.bool b)
 | .str,K=>∀ s:ByteArray,K (.string s)
 | .slice,K=>∀ (a:OA) (n c:Nat),K (.slice a n c)
 | .ptr,K=>∀ b o:Nat,K (.pointer (some ⟨b,o,none⟩))
 | .fn,K=>∀ g:Nat,K (.func (.func g) #[] #[])
 | .fix v,K=>K v
 | .fnk,K=>∀ (g:Nat) (k:List Value),K (.func (.func g) #[] k.toArray)
 | .fnf,K=>∀ (g:Nat) (k:List Value),K (.func (.func g) k.toArray #[])
 | .yld,K=>∀ l:Nat,K (.func (.yield l) #[] #[])
 | .map,K=>∀ n:Nat,K (.map (some n))
def allShs:List Value->(List Value->Prop)->Prop
 | [],K=>K []
 | z :: l,K=>allSh (shOf z) fun v=>allShs l fun vs=>K (v :: vs)
def allLV:List LV->(List Value->Prop)->Prop
 | [],K=>K []
 | .tmp _ s :: l,K=>allSh s fun v=>allLV l fun vs=>K (v :: vs)
 | .agg _ zs :: l,K=>allShs zs fun cs=>allLV l fun vs=>K (.agg cs.toArray :: vs)
 | _ :: _,_=>True
def pickT (T:TS) (N:Nat):List LV->TS
 | []=>.nil
 | .tmp t _ :: l=>(match tget T t with
   | some (.v x)=>bif Nat.blt t N then tset (pickT T N l) t (some (.v x)) else pickT T N l
   | some (.q b)=>bif Nat.blt t N then tset (pickT T N l) t (some (.q b)) else pickT T N l
   | _=>pickT T N l)
 | _ :: l=>pickT T N l
def putPsS (T:TS):List Nat->List Value->TS
 | t :: ts,v :: vs=>putPsS (tset T t (some (toSV v))) ts vs
 | _,_=>T
def addN (i:Nat) (l:List Nat):List Nat:=bif memN i l then l else i :: l
def exitsOf:Code->List Nat->List Nat
 | .seq a b,l=>exitsOf a (exitsOf b l)
 | .cond _ a b,l=>exitsOf a (exitsOf b l)
 | .block _ c,l=>exitsOf c l
 | .loop c,l=>exitsOf c l
 | .exit i,l=>addN i l
 | .rangeFunc _ _ _ c,l=>exitsOf c l
 | _,l=>l
def orX:List Nat->(Nat->Prop)->Prop
 | [],_=>False
 | [i],K=>K i
 | i :: l,K=>K i\/orX l K
def lvAt (W:WE) (k:Nat):List LV:=match tget W.lv k with
 | some l=>l
 | none=>[]
def keyOf:List Nat->Nat
 | t :: _=>t
 | []=>0
def forks:Code->Bool
 | .seq a b=>forks a||forks b
 | .cond _ _ _=>true
 | .block _ c=>forks c
 | .loop _=>true
 | .rangeFunc _ _ _ _=>true
 | _=>false
def joinP (p:Prop):Prop:=p
def wCode (W:WE):Code->TS->BX->KH->(TS->BX->KH->Prop)->(Nat->TS->BX->KH->Prop)->(TS->BX->KH->Prop)->Prop
 | .skip,T,B,H,Kn,_,_=>Kn T B H
 | .seq a b,T,B,H,Kn,Kx,Kr=>bif forks a then wCode W a T B H (fun T B H=>joinP (wCode W b T B H Kn Kx Kr)) Kx Kr else wCode W a T B H (fun T B H=>wCode W b T B H Kn Kx Kr) Kx Kr
 | .cond c a b,T,B,H,Kn,Kx,Kr=>match c with
   | .tmp t=>askB (tget T t) (fun s=>wCode W a (tset T t (some s)) B H Kn Kx Kr) (fun s=>wCode W b (tset T t (some s)) B H Kn Kx Kr)
   | _=>False
 | .block id (.loop c),T,B,H,Kn,Kx,Kr=>match tget W.lv id with
   | none=>False
   | some lv=>∃ I:Nat->IT lv,(∃ n,useL lv (I n) T B H)/\∀ n,bindL lv (I n) .nil .nil fun J T B=>∀ H,J H->
      wCode W c T B H (fun T B H=>∃ m,m<n/\useL lv (I m) T B H) (fun i T B H=>bif Nat.beq i id then Kn T B H else Kx i T B H) Kr
 | .block id c,T,B,H,Kn,Kx,Kr=>wCode W c T B H Kn (fun i T B H=>bif Nat.beq i id then Kn T B H else Kx i T B H) Kr
 | .exit id,T,B,H,_,Kx,_=>Kx id T B H
 | .ret,T,B,H,_,_,Kr=>Kr T B H
 | .region id ops draw,T,B,H,Kn,_,_=>bif draw then
    match tget W.E.pp W.f with
    | none=>False
    | some pf=>match tget pf id with
      | none=>False
      | some st=>wStages W ops st [] [] T B H Kn
    else wOps W ops ops.toList T B H Kn
 | .rangeFunc g ps asg body,T,B,H,Kn,Kx,Kr=>match opW T g,tget W.E.ff W.f with
   | some (.func (.func it) first cap),some fn=>bif Nat.beq (lvAt W (1000000+keyOf ps.toList)).length ps.toList.length&&ps.toList.all (fun t=>Nat.blt t fn.ntmps) then
      FnIn W.E it/\∀ (l:Nat) (L:Lp),H l=none->
       (allLV (lvAt W (1000000+keyOf ps.toList)) fun args=>∀ (H1:KH) (Q:PQ),H1 l=some (lpE L 0 none)->
         wCode W asg (putPsS (pickT T fn.ntmps (lvAt W (2000000+keyOf ps.toList))) ps.toList args) .nil (H1.del l) (fun T B H=>wCode W body T B H
          (fun _ _ H=>H l=none->Q (.bool true) (H.new l (lpE L 0 none)))
          (fun i _ _ H=>H l=none->Q (.bool false) (H.new l (lpE L 2 (some (.exit i)))))
          (fun _ _ H=>H l=none->Q (.bool false) (H.new l (lpE L 2 (some .ret)))))
          (fun _ _ _ _=>False) (fun _ _ _=>False)->DoesR W.E l args H1 Q)->
       Does W.E it (first.toList++[.func (.yield l) #[] #[]]++cap.toList) (H.new l (lpE L 0 none)) fun _ H' =>
        (H' l=some (lpE L 0 none)/\Kn T B (H'.del l))\/(H' l=some (lpE L 2 (some .ret))/\Kr T B (H'.del l))\/
          orX (exitsOf body []) fun i=>H' l=some (lpE L 2 (some (.exit i)))/\Kx i T B (H'.del l)
     else False
   | _,_=>False
 | _,_,_,_,_,_,_=>False
def argsS (T:TS):Nat->List Value->TS
 | _,[]=>T
 | i,v :: l=>argsS (tset T i (some (toSV v))) (i+1) l
def wRess (W:WE) (T:TS) (B:BX) (H:KH):List ResultVar->List Value->(List Value->Prop)->Prop
 | [],acc,K=>K acc.reverse
 | .tmp t :: l,acc,K=>match opW T (.tmp t) with
   | some v=>wRess W T B H l (v :: acc) K
   | none=>False
 | .cell t ty :: l,acc,K=>match tget T t,tget W.E.tt ty with
   | some (.r b off),some ti=>match tget B b with
     | some cs=>bif Nat.ble (off+ti.size) cs.length then
        (bif ti.agg then wRess W T B H l (.agg ((cs.drop off).take ti.size).toArray :: acc) K else match cs[off]? with
          | some v=>wRess W T B H l (v :: acc) K
          | none=>False)
       else False
     | none=>False
   | some (.v (.pointer (some ad))),some ti=>bif ti.agg then (bif Nat.beq ti.zero.length ti.size then exShs ti.zero fun vs=>ld H ad vs/\wRess W T B H l (.agg vs.toArray :: acc) K else False) else (match ti.zero with
     | [z]=>exSh (shOf z) fun v=>ld H ad [v]/\wRess W T B H l (v :: acc) K
     | _=>False)
   | _,_=>False
def wFun (W:WE) (fn:Func) (args:List Value) (H:KH) (Q:PQ):Prop:=match fn.body with
 | none=>False
 | some c=>wCode W c (argsS .nil 0 args) .nil H
    (fun T B H=>wRess W T B H fn.results.toList [] fun vs=>match oneOf vs with
      | some v=>Q v H
      | none=>False)
    (fun _ _ _ _=>False)
    (fun T B H=>wRess W T B H fn.results.toList [] fun vs=>match oneOf vs with
      | some v=>Q v H
      | none=>False)
end Go.Ew
