import Derived.Test.YtibkijpnkmccpaaEvDraw4
set_option linter.unusedVariables false
set_option linter.unusedSimpArgs false
namespace Go.Ev
open Go.Deep
structure N8 (α:Type) where
 a:α
 b:α
 c:α
 d:α
 e:α
 f:α
 g:α
 h:α
abbrev FT:=N8 (N8 (N8 (Option Value)))
def get8 {α:Type} (t:N8 α):Nat->α
 | 0=>t.a
 | 1=>t.b
 | 2=>t.c
 | 3=>t.d
 | 4=>t.e
 | 5=>t.f
 | 6=>t.g
 | _=>t.h
def set8 {α:Type} (t:N8 α) (x:α):Nat->N8 α
 | 0=>⟨x,t.b,t.c,t.d,t.e,t.f,t.g,t.h⟩
 | 1=>⟨t.a,x,t.c,t.d,t.e,t.f,t.g,t.h⟩
 | 2=>⟨t.a,t.b,x,t.d,t.e,t.f,t.g,t.h⟩
 | 3=>⟨t.a,t.b,t.c,x,t.e,t.f,t.g,t.h⟩
 | 4=>⟨t.a,t.b,t.c,t.d,x,t.f,t.g,t.h⟩
 | 5=>⟨t.a,t.b,t.c,t.d,t.e,x,t.g,t.h⟩
 | 6=>⟨t.a,t.b,t.c,t.d,t.e,t.f,x,t.h⟩
 | _=>⟨t.a,t.b,t.c,t.d,t.e,t.f,t.g,x⟩
structure Rd8 (α:Type) where
 fn:N8 α->α
def rd8 (α:Type):Nat->Rd8 α
 | 0=>⟨fun t=>t.a⟩
 | 1=>⟨fun t=>t.b⟩
 | 2=>⟨fun t=>t.c⟩
 | 3=>⟨fun t=>t.d⟩
 | 4=>⟨fun t=>t.e⟩
 | 5=>⟨fun t=>t.f⟩
 | 6=>⟨fun t=>t.g⟩
 | _=>⟨fun t=>t.h⟩
structure Wr8 (α:Type) where
 f0:N8 α->α->(N8 α->Prop)->Prop
def Wr8.fn {α:Type} (X:Wr8 α) (x0:N8 α) (x1:α) (x2:(N8 α->Prop)):Prop:=Wr8.rec (motive:=fun _=>Prop) (fun f=>f x0 x1 x2) X
theorem Wr8.fn_mk {α:Type} (f:N8 α->α->(N8 α->Prop)->Prop) (x0:N8 α) (x1:α) (x2:(N8 α->Prop)):(Wr8.mk f).fn x0 x1 x2=f x0 x1 x2:=rfl
def wr8 (α:Type):Nat->Wr8 α
 | 0=>⟨fun t x k=>N8.rec (motive:=fun _=>Prop) (fun a b c d e f g h=>k ⟨x,b,c,d,e,f,g,h⟩) t⟩
 | 1=>⟨fun t x k=>N8.rec (motive:=fun _=>Prop) (fun a b c d e f g h=>k ⟨a,x,c,d,e,f,g,h⟩) t⟩
 | 2=>⟨fun t x k=>N8.rec (motive:=fun _=>Prop) (fun a b c d e f g h=>k ⟨a,b,x,d,e,f,g,h⟩) t⟩
 | 3=>⟨fun t x k=>N8.rec (motive:=fun _=>Prop) (fun a b c d e f g h=>k ⟨a,b,c,x,e,f,g,h⟩) t⟩
 | 4=>⟨fun t x k=>N8.rec (motive:=fun _=>Prop) (fun a b c d e f g h=>k ⟨a,b,c,d,x,f,g,h⟩) t⟩
 | 5=>⟨fun t x k=>N8.rec (motive:=fun _=>Prop) (fun a b c d e f g h=>k ⟨a,b,c,d,e,x,g,h⟩) t⟩
 | 6=>⟨fun t x k=>N8.rec (motive:=fun _=>Prop) (fun a b c d e f g h=>k ⟨a,b,c,d,e,f,x,h⟩) t⟩
 | _=>⟨fun t x k=>N8.rec (motive:=fun _=>Prop) (fun a b c d e f g h=>k ⟨a,b,c,d,e,f,g,x⟩) t⟩
structure Md8 (α:Type) where
 f0:N8 α->(α->(α->Prop)->Prop)->(N8 α->Prop)->Prop
def Md8.fn {α:Type} (X:Md8 α) (x0:N8 α) (x1:(α->(α->Prop)->Prop)) (x2:(N8 α->Prop)):Prop:=Md8.rec (motive:=fun _=>Prop) (fun f=>f x0 x1 x2) X
theorem Md8.fn_mk {α:Type} (f:N8 α->(α->(α->Prop)->Prop)->(N8 α->Prop)->Prop) (x0:N8 α) (x1:(α->(α->Prop)->Prop)) (x2:(N8 α->Prop)):(Md8.mk f).fn x0 x1 x2=f x0 x1 x2:=rfl
def md8 (α:Type):Nat->Md8 α
 | 0=>⟨fun t q k=>N8.rec (motive:=fun _=>Prop) (fun a b c d e f g h=>q a fun z=>k ⟨z,b,c,d,e,f,g,h⟩) t⟩
 | 1=>⟨fun t q k=>N8.rec (motive:=fun _=>Prop) (fun a b c d e f g h=>q b fun z=>k ⟨a,z,c,d,e,f,g,h⟩) t⟩
 | 2=>⟨fun t q k=>N8.rec (motive:=fun _=>Prop) (fun a b c d e f g h=>q c fun z=>k ⟨a,b,z,d,e,f,g,h⟩) t⟩
 | 3=>⟨fun t q k=>N8.rec (motive:=fun _=>Prop) (fun a b c d e f g h=>q d fun z=>k ⟨a,b,c,z,e,f,g,h⟩) t⟩
 | 4=>⟨fun t q k=>N8.rec (motive:=fun _=>Prop) (fun a b c d e f g h=>q e fun z=>k ⟨a,b,c,d,z,f,g,h⟩) t⟩
 | 5=>⟨fun t q k=>N8.rec (motive:=fun _=>Prop) (fun a b c d e f g h=>q f fun z=>k ⟨a,b,c,d,e,z,g,h⟩) t⟩
 | 6=>⟨fun t q k=>N8.rec (motive:=fun _=>Prop) (fun a b c d e f g h=>q g fun z=>k ⟨a,b,c,d,e,f,z,h⟩) t⟩
 | _=>⟨fun t q k=>N8.rec (motive:=fun _=>Prop) (fun a b c d e f g h=>q h fun z=>k ⟨a,b,c,d,e,f,g,z⟩) t⟩
theorem rd8_eq {α:Type} (t:N8 α) (i:Nat):(rd8 α i).fn t=get8 t i:=by
 rcases i with _ | _ | _ | _ | _ | _ | _ | i<;>rfl
theorem wr8_eq {α:Type} (t:N8 α) (x:α) (i:Nat) (k:N8 α->Prop):(wr8 α i).fn t x k=k (set8 t x i):=by
 rcases i with _ | _ | _ | _ | _ | _ | _ | i<;>rfl
theorem md8_eq {α:Type} (t:N8 α) (i:Nat) (q:α->(α->Prop)->Prop) (y:α) (hq:∀ k,q (get8 t i) k=k y) (k:N8 α->Prop):(md8 α i).fn t q k=k (set8 t y i):=by
 rcases i with _ | _ | _ | _ | _ | _ | _ | i<;>exact hq _
theorem get8_set8 {α:Type} (t:N8 α) (x:α) (i j:Nat) (hi:i<8) (hj:j<8):get8 (set8 t x i) j=if i=j then x else get8 t j:=by
 have h1:i=0\/i=1\/i=2\/i=3\/i=4\/i=5\/i=6\/i=7:=by omega
 have h2:j=0\/j=1\/j=2\/j=3\/j=4\/j=5\/j=6\/j=7:=by omega
 rcases h1 with rfl | rfl | rfl | rfl | rfl | rfl | rfl | rfl<;>rcases h2 with rfl | rfl | rfl | rfl | rfl | rfl | rfl | rfl<;>rfl
def getF (T:FT) (i:Nat):Option Value:=bif Nat.blt i 512 then get8 (get8 (get8 T (Nat.div i 64)) (Nat.mod (Nat.div i 8) 8)) (Nat.mod i 8) else none
def setF (T:FT) (x:Option Value) (i:Nat):FT:=set8 T (set8 (get8 T (Nat.div i 64)) (set8 (get8 (get8 T (Nat.div i 64)) (Nat.mod (Nat.div i 8) 8)) x (Nat.mod i 8)) (Nat.mod (Nat.div i 8) 8)) (Nat.div i 64)
theorem getF_setF (T:FT) (x:Option Value) (i j:Nat) (hi:i<512):getF (setF T x i) j=if i=j then x else getF T j:=by
 unfold getF
 cases hb:Nat.blt j 512
 .simp only [cond_false]
  have hj:512<=j:=by
   rcases Nat.lt_or_ge j 512 with k | k
   .have:Nat.blt j 512=true:=Nat.ble_eq_true_of_le k
    rw [hb] at this; cases this
   .exact k
  rw [if_neg (by omega)]
 .have hj:j<512:=Nat.le_of_ble_eq_true hb
  simp only [cond_true]
  unfold setF
  have e1:∀ n,Nat.div n 64=n/64:=fun _=>rfl
  have e2:∀ n,Nat.div n 8=n/8:=fun _=>rfl
  have e3:∀ n,Nat.mod n 8=n%8:=fun _=>rfl
  simp only [e1,e2,e3]
  rw [get8_set8 _ _ _ _ (by omega) (by omega)]
  by_cases h1:i/64=j/64
  .rw [if_pos h1,get8_set8 _ _ _ _ (by omega) (by omega)]
   by_cases h2:i/8%8=j/8%8
   .rw [if_pos h2,get8_set8 _ _ _ _ (by omega) (by omega)]
    by_cases h3:i%8=j%8
    .rw [if_pos h3,if_pos (by omega)]
    .rw [if_neg h3,if_neg (by omega),h1,h2]
   .rw [if_neg h2,if_neg (by intro e; subst e; exact h2 rfl),h1]
  .rw [if_neg h1,if_neg (by intro e; subst e; exact h1 rfl)]
structure Rd where
 fn:FT->Option Value
structure Wr where
 f0:FT->Option Value->(FT->Prop)->Prop
def Wr.fn (X:Wr) (x0:FT) (x1:Option Value) (x2:(FT->Prop)):Prop:=Wr.rec (motive:=fun _=>Prop) (fun f=>f x0 x1 x2) X
theorem Wr.fn_mk (f:FT->Option Value->(FT->Prop)->Prop) (x0:FT) (x1:Option Value) (x2:(FT->Prop)):(Wr.mk f).fn x0 x1 x2=f x0 x1 x2:=rfl
def getS (i:Nat):Rd:=bif Nat.blt i 512 then (match rd8 (Option Value) (Nat.mod i 8),rd8 (N8 (Option Value)) (Nat.mod (Nat.div i 8) 8),rd8 (N8 (N8 (Option Value))) (Nat.div i 64) with | ⟨p⟩,⟨q⟩,⟨r⟩=>⟨fun T=>p (q (r T))⟩) else ⟨fun _=>none⟩
def setS (i:Nat):Wr:=bif Nat.blt i 512 then (match md8 (N8 (N8 (Option Value))) (Nat.div i 64),md8 (N8 (Option Value)) (Nat.mod (Nat.div i 8) 8),wr8 (Option Value) (Nat.mod i 8) with | ⟨p⟩,⟨q⟩,⟨r⟩=>⟨fun T x k=>p T (fun U k1=>q U (fun V k2=>r V x k2) k1) k⟩) else ⟨fun _ _ _=>False⟩
theorem getS_eq (i:Nat) (T:FT):(getS i).fn T=getF T i:=by
 unfold getS getF
 cases Nat.blt i 512<;>simp only [cond_true,cond_false]
 show (rd8 (Option Value) (Nat.mod i 8)).fn ((rd8 (N8 (Option Value)) (Nat.mod (Nat.div i 8) 8)).fn ((rd8 (N8 (N8 (Option Value))) (Nat.div i 64)).fn T))=_
 simp only [rd8_eq]
def kO {α:Type} (o:Option α) (k:α->Prop):Prop:=Option.rec (motive:=fun _=>Prop) False k o
def k2 {α β:Type} (o:Option (α × β)) (k:α->β->Prop):Prop:=Option.rec (motive:=fun _=>Prop) False (fun p=>Prod.rec (motive:=fun _=>Prop) k p) o
theorem setS_eq (i:Nat) (T:FT) (x:Option Value) (k:FT->Prop):(setS i).fn T x k=kO (bif Nat.blt i 512 then some (setF T x i) else none) k:=by
 unfold setS setF
 cases Nat.blt i 512<;>simp only [cond_true,cond_false]
 .rfl
 .show ((md8 (N8 (N8 (Option Value))) (Nat.div i 64)).fn T (fun U k1=>(md8 (N8 (Option Value)) (Nat.mod (Nat.div i 8) 8)).fn U (fun V k2=>(wr8 (Option Value) (Nat.mod i 8)).fn V x k2) k1) k)=_
  rw [md8_eq _ _ _ _ (fun k=>md8_eq _ _ _ _ (fun k=>wr8_eq _ _ _ _) _)]
  rfl
def Sim (T:FT) (M:Tm):Prop:=∀ i,getF T i=tget M i
theorem Sim.put {T:FT} {M:Tm} (h:Sim T M) {i:Nat} (hi:i<512) (x:Option Value):Sim (setF T x i) (tset M i x):=by
 intro j
 rw [getF_setF _ _ _ _ hi,tget_tset,h j]
def none8 (α:Type) (x:α):N8 α:=⟨x,x,x,x,x,x,x,x⟩
def zeroF:FT:=none8 _ (none8 _ (none8 _ none))
theorem get8_none {α:Type} (x:α) (i:Nat):get8 (none8 α x) i=x:=by
 rcases i with _ | _ | _ | _ | _ | _ | _ | i<;>rfl
theorem zero_sim:Sim zeroF .nil:=by
 intro i
 unfold getF zeroF
 cases Nat.blt i 512<;>simp only [cond_true,cond_false,get8_none,tget_nil]
def getC {α:Type} (t:BT (Option α)):Nat->(Option α->Prop)->Prop :=
 BT.rec (motive:=fun _=>Nat->(Option α->Prop)->Prop) (fun _ k=>k none)
  (fun _ _ a _ _ gl gr n k=>Nat.rec (motive:=fun _=>Prop) (k a) (fun m _=>Bool.rec (motive:=fun _=>Prop) (gr (Nat.div m 2) k) (gl (Nat.div m 2) k) (Nat.beq (Nat.mod m 2) 0)) n) t
def setC {α:Type} (x:Option α) (t:BT (Option α)):Nat->(BT (Option α)->Prop)->Prop :=
 BT.rec (motive:=fun _=>Nat->(BT (Option α)->Prop)->Prop) (fun n k=>k (tset .nil n x))
  (fun _ _ a l r gl gr n k=>Nat.rec (motive:=fun _=>Prop) (k (.node 0 0 x l r)) (fun m _=>Bool.rec (motive:=fun _=>Prop) (gr (Nat.div m 2) fun r'=>k (.node 0 0 a l r')) (gl (Nat.div m 2) fun l'=>k (.node 0 0 a l' r)) (Nat.beq (Nat.mod m 2) 0)) n) t
theorem getC_eq {α:Type} (t:BT (Option α)):∀ (n:Nat) (k:Option α->Prop),getC t n k=k (tget t n):=by
 induction t with
 | nil=>intro n k; rfl
 | node b o a l r ihl ihr =>
   intro n k
   cases n with
   | zero=>rfl
   | succ m =>
     show Bool.rec (motive:=fun _=>Prop) (getC r (Nat.div m 2) k) (getC l (Nat.div m 2) k) (Nat.beq (Nat.mod m 2) 0)=k (bif Nat.beq (Nat.mod m 2) 0 then tget l (Nat.div m 2) else tget r (Nat.div m 2))
     rw [ihl,ihr]
     cases Nat.beq (Nat.mod m 2) 0<;>rfl
theorem tput_fuel {α:Type}:∀ (f g:Nat) (t:BT (Option α)) (n:Nat) (x:Option α),n+1<2 ^ f->n+1<2 ^ g->tput f t n x=tput g t n x
 | 0,_,_,_,_,h,_=>by simp at h
 | _+1,0,_,_,_,_,h=>by simp at h
 | f+1,g+1,.nil,0,x,_,_=>rfl
 | f+1,g+1,.node _ _ a l r,0,x,_,_=>rfl
 | f+1,g+1,.nil,m+1,x,h1,h2=>by
   have e1:Nat.div m 2+1<2 ^ f:=by show m/2+1<2 ^ f; rw [Nat.pow_succ] at h1; omega
   have e2:Nat.div m 2+1<2 ^ g:=by show m/2+1<2 ^ g; rw [Nat.pow_succ] at h2; omega
   simp only [tput]
   rw [tput_fuel f g _ _ _ e1 e2]
 | f+1,g+1,.node _ _ a l r,m+1,x,h1,h2=>by
   have e1:Nat.div m 2+1<2 ^ f:=by show m/2+1<2 ^ f; rw [Nat.pow_succ] at h1; omega
   have e2:Nat.div m 2+1<2 ^ g:=by show m/2+1<2 ^ g; rw [Nat.pow_succ] at h2; omega
   simp only [tput]
   rw [tput_fuel f g l _ _ e1 e2,tput_fuel f g r _ _ e1 e2]
theorem log_ok (n:Nat):n+1<2 ^ (Nat.log2 n+2):=by
 have h1:n<2 ^ (Nat.log2 n+1):=Nat.lt_log2_self
 rw [Nat.pow_succ]
 omega
theorem setC_eq {α:Type} (x:Option α) (t:BT (Option α)):∀ (n:Nat) (k:BT (Option α)->Prop),setC x t n k=k (tset t n x):=by
 induction t with
 | nil=>intro n k; rfl
 | node b o a l r ihl ihr =>
   intro n k
   cases n with
   | zero=>rfl
   | succ m =>
     show Bool.rec (motive:=fun _=>Prop) (setC x r (Nat.div m 2) fun r'=>k (.node 0 0 a l r')) (setC x l (Nat.div m 2) fun l'=>k (.node 0 0 a l' r)) (Nat.beq (Nat.mod m 2) 0)=k (tput (Nat.log2 (m+1)+1+1) (.node b o a l r) (m+1) x)
     rw [ihl,ihr]
     have e1:Nat.div m 2+1<2 ^ (Nat.log2 (m+1)+1):=by
      have:=log_ok (m+1)
      rw [Nat.pow_succ] at this
      show m/2+1<_
      omega
     simp only [tput,tset]
     rw [tput_fuel _ _ l _ _ (log_ok _) e1,tput_fuel _ _ r _ _ (log_ok _) e1]
     cases Nat.beq (Nat.mod m 2) 0<;>rfl
def rdC (e:BT (Option Value)) (n:Nat):Nat->(List Value->Prop)->Prop :=
 Nat.rec (motive:=fun _=>Nat->(List Value->Prop)->Prop) (fun _ k=>k []) (fun _ ih i k=>getC e i fun v=>kO v fun v=>ih (Nat.succ i) fun l=>k (v :: l)) n
theorem rdC_eq (e:BT (Option Value)):∀ (n i:Nat) (k:List Value->Prop),rdC e n i k=kO (rd e i n) k
 | 0,i,k=>rfl
 | n+1,i,k=>by
   show (getC e i fun v=>kO v fun v=>rdC e n (i+1) fun l=>k (v :: l))=_
   rw [getC_eq]
   simp only [rd]
   cases tget e i with
   | none=>rfl
   | some v =>
     show (rdC e n (i+1) fun l=>k (v :: l))=_
     rw [rdC_eq e n]
     cases rd e (i+1) n<;>rfl
def wrC (l:List Value):BT (Option Value)->Nat->(BT (Option Value)->Prop)->Prop :=
 List.rec (motive:=fun _=>BT (Option Value)->Nat->(BT (Option Value)->Prop)->Prop) (fun e _ k=>k e) (fun v _ ih e i k=>setC (some v) e i fun e'=>ih e' (Nat.succ i) k) l
theorem wrC_eq:∀ (l:List Value) (e:BT (Option Value)) (i:Nat) (k:BT (Option Value)->Prop),wrC l e i k=k (wr e i l)
 | [],e,i,k=>rfl
 | v :: l,e,i,k=>by
   show (setC (some v) e i fun e'=>wrC l e' (i+1) k)=_
   rw [setC_eq,wrC_eq l]
   rfl
abbrev CallC:Type:=Nat->List Value->Hp->(Value->Hp->Prop)->Prop
def TwinC (c:CallC) (call:Nat->List Value->Hp->Option (Value × Hp)):Prop:=∀ g args h k,c g args h k=k2 (call g args h) k
structure Xo where
 f0:CallC->Nat->FT->Hp->(Value->Hp->Prop)->Prop
def Xo.fn (X:Xo) (x0:CallC) (x1:Nat) (x2:FT) (x3:Hp) (x4:(Value->Hp->Prop)):Prop:=Xo.rec (motive:=fun _=>Prop) (fun f=>f x0 x1 x2 x3 x4) X
theorem Xo.fn_mk (f:CallC->Nat->FT->Hp->(Value->Hp->Prop)->Prop) (x0:CallC) (x1:Nat) (x2:FT) (x3:Hp) (x4:(Value->Hp->Prop)):(Xo.mk f).fn x0 x1 x2 x3 x4=f x0 x1 x2 x3 x4:=rfl
def opvS:Operand->Rd
 | .tmp t=>getS t
 | .const v=>bif isPlain v then ⟨fun _=>some v⟩ else ⟨fun _=>none⟩
 | .func f=>⟨fun _=>some (.func (.func f) #[] #[])⟩
 | .global _=>⟨fun _=>none⟩
def rhoS (T:FT) (x:Operand):Option Value:=(opvS x).fn T
theorem opvS_eq {T:FT} {M:Tm} (h:Sim T M) (x:Operand):(opvS x).fn T=opv M x:=by
 cases x with
 | tmp t=>exact (getS_eq t T).trans (h t)
 | const v=>simp only [opvS,opv]; cases isPlain v<;>rfl
 | func f=>rfl
 | «global» g=>rfl
theorem rhoS_eq {T:FT} {M:Tm} (h:Sim T M):rhoS T=opv M:=funext fun x=>opvS_eq h x
def XoOk (E:Env) (o:Oper) (X:Xo):Prop:=∀ (c:CallC) (call:Nat->List Value->Hp->Option (Value × Hp)),TwinC c call->∀ nm T M h,Sim T M->
 ∃ r:Option (Value × Hp),(∀ k,X.fn c nm T h k=k2 r k)/\∀ p,r=some p->xop E call nm o M h=some p
theorem XoOk.same {E:Env} {o:Oper} {X:Xo} (h:∀ (c:CallC) (call:Nat->List Value->Hp->Option (Value × Hp)),TwinC c call->∀ nm T M h,Sim T M->∀ k,X.fn c nm T h k=k2 (xop E call nm o M h) k):XoOk E o X :=
 fun c call hc nm T M hp hs=>⟨_,h c call hc nm T M hp hs,fun _ e=>e⟩
def fN (n:Nat) (k:Nat->Prop):Prop:=Nat.rec (motive:=fun _=>Prop) (k 0) (fun m _=>k (Nat.succ m)) n
theorem fN_eq (n:Nat) (k:Nat->Prop):fN n k=k n:=by cases n<;>rfl
def fI (x:Int) (k:Int->Prop):Prop:=Int.rec (motive:=fun _=>Prop) (fun n=>fN n fun n=>k (.ofNat n)) (fun n=>fN n fun n=>k (.negSucc n)) x
theorem fI_eq (x:Int) (k:Int->Prop):fI x k=k x:=by
 cases x with
 | ofNat n=>show (fN n fun n=>k (.ofNat n))=_; rw [fN_eq]
 | negSucc n=>show (fN n fun n=>k (.negSucc n))=_; rw [fN_eq]
def fB (b:Bool) (k:Bool->Prop):Prop:=Bool.rec (motive:=fun _=>Prop) (k false) (k true) b
theorem fB_eq (b:Bool) (k:Bool->Prop):fB b k=k b:=by cases b<;>rfl
def fH (h:Hp) (k:Hp->Prop):Prop:=Hp.rec (motive:=fun _=>Prop) (fun m n=>fN n fun n=>k ⟨m,n⟩) h
theorem fH_eq (h:Hp) (k:Hp->Prop):fH h k=k h:=by
 cases h with
 | mk m n=>show (fN n fun n=>k ⟨m,n⟩)=_; rw [fN_eq]
def iff1 (b:Bool) (p:Prop):Prop:=Bool.rec (motive:=fun _=>Prop) False p b
def anyS (E:Env) (o:Oper):Xo:=⟨fun _ nm T h k=>k2 (xopR E (fun _ _ _=>none) nm o (rhoS T) h) fun v h'=>fH h' fun h'=>k v h'⟩
theorem xopR_none {E:Env} {call:Nat->List Value->Hp->Option (Value × Hp)} {nm:Nat} {o:Oper} {ρ:Operand->Option Value} {h:Hp} {p:Value × Hp} (hx:xopR E (fun _ _ _=>none) nm o ρ h=some p):xopR E call nm o ρ h=some p:=by
 cases ho:o.op<;>simp only [xopR,ho] at hx ⊢ <;> try exact hx
 rename_i c
 unfold xCall at hx ⊢
 split at hx
 .rename_i f hc
  unfold xCallV at hx
  split at hx
  .rename_i g _ _ _ _ _
   cases hb:Nat.blt g unkU<;>rw [hb] at hx<;>cases hx
  .cases hx
  .cases hx
 .rename_i b hc
  exact hx
 .rename_i r name hc
  unfold xCallI at hx
  split at hx
  .rename_i t x vs hf hvs
   obtain ⟨ti,k1,k2⟩:=ob_some hx
   cases hq:(Nat.ble 1 ti.kind&&!(Nat.beq ti.kind 7))<;>simp only [hq,cond_true,cond_false,reduceCtorEq] at k2
   obtain ⟨g,k3,k4⟩:=ob_some k2
   cases hg:Nat.blt g unkU<;>simp only [hg,cond_true,cond_false,reduceCtorEq] at k4
  .cases hx
theorem k2_fH (r:Option (Value × Hp)) (k:Value->Hp->Prop):(k2 r fun v h'=>fH h' fun h'=>k v h')=k2 r k:=by
 cases r with
 | none=>rfl
 | some p=>exact fH_eq _ _
theorem anyS_ok (E:Env) (o:Oper):XoOk E o (anyS E o):=by
 intro c call hc nm T M h hs
 refine ⟨xopR E (fun _ _ _=>none) nm o (opv M) h,fun k=>?_,fun p hp=>xopR_none hp⟩
 show (k2 (xopR E (fun _ _ _=>none) nm o (rhoS T) h) fun v h'=>fH h' fun h'=>k v h')=_
 rw [k2_fH,rhoS_eq hs]
def nowS:Xo:=⟨fun _ _ _ _ _=>False⟩
theorem nowS_ok (E:Env) (o:Oper):XoOk E o nowS:=fun _ _ _ _ _ _ _ _=>⟨none,fun _=>rfl,fun _ e=>by cases e⟩
def isPtr (v:Value) (k:Addr->Prop):Prop :=
 Value.rec (motive_1:=fun _=>Prop) (motive_2:=fun _=>Prop) (motive_3:=fun _=>Prop) (fun _=>False) (fun _ _=>False) (fun _ _=>False) (fun _ _ _=>False) (fun _=>False) (fun a=>Option.rec (motive:=fun _=>Prop) False (k) a) (fun _ _ _=>False) (fun _=>False) (fun _=>False) (fun _ _ _ _ _=>False) False (fun _ _ _=>False) False (fun _ _=>False) (fun _ _=>False) (fun _ _=>True) True (fun _ _ _ _=>True) v
def isI (v:Value) (e:Prop) (k:Int->Prop):Prop :=
 Value.rec (motive_1:=fun _=>Prop) (motive_2:=fun _=>Prop) (motive_3:=fun _=>Prop) (fun _=>e) (fun kd n=>IntKind.rec (motive:=fun _=>Prop) e e e (k n) e e e e kd) (fun _ _=>e) (fun _ _ _=>e) (fun _=>e) (fun _=>e) (fun _ _ _=>e) (fun _=>e) (fun _=>e) (fun _ _ _ _ _=>e) e (fun _ _ _=>e) e (fun _ _=>e) (fun _ _=>e) (fun _ _=>True) True (fun _ _ _ _=>True) v
def isBool (v:Value) (e:Prop) (k:Bool->Prop):Prop :=
 Value.rec (motive_1:=fun _=>Prop) (motive_2:=fun _=>Prop) (motive_3:=fun _=>Prop) k (fun _ _=>e) (fun _ _=>e) (fun _ _ _=>e) (fun _=>e) (fun _=>e) (fun _ _ _=>e) (fun _=>e) (fun _=>e) (fun _ _ _ _ _=>e) e (fun _ _ _=>e) e (fun _ _=>e) (fun _ _=>e) (fun _ _=>True) True (fun _ _ _ _=>True) v
def isSl (v:Value) (e:Prop) (k:Nat->Prop):Prop :=
 Value.rec (motive_1:=fun _=>Prop) (motive_2:=fun _=>Prop) (motive_3:=fun _=>Prop) (fun _=>e) (fun _ _=>e) (fun _ _=>e) (fun _ _ _=>e) (fun _=>e) (fun _=>e) (fun _ n _=>k n) (fun _=>e) (fun _=>e) (fun _ _ _ _ _=>e) e (fun _ _ _=>e) e (fun _ _=>e) (fun _ _=>e) (fun _ _=>True) True (fun _ _ _ _=>True) v
def isStr (v:Value) (e:Prop) (k:ByteArray->Prop):Prop :=
 Value.rec (motive_1:=fun _=>Prop) (motive_2:=fun _=>Prop) (motive_3:=fun _=>Prop) (fun _=>e) (fun _ _=>e) (fun _ _=>e) (fun _ _ _=>e) k (fun _=>e) (fun _ _ _=>e) (fun _=>e) (fun _=>e) (fun _ _ _ _ _=>e) e (fun _ _ _=>e) e (fun _ _=>e) (fun _ _=>e) (fun _ _=>True) True (fun _ _ _ _=>True) v
theorem isI_else {v:Value} (h:∀ n,v≠.int .i64 n) (e:Prop) (k:Int->Prop):isI v e k=e:=by
 cases v<;>try rfl
 rename_i kd n
 cases kd<;>first | rfl | exact absurd rfl (h n)
theorem isBool_else {v:Value} (h:∀ b,v≠.bool b) (e:Prop) (k:Bool->Prop):isBool v e k=e:=by
 cases v<;>try rfl
 rename_i b
 exact absurd rfl (h b)
def hloadC (h:Hp) (a:Addr) (n:Nat) (k:List Value->Prop):Prop :=
 Option.rec (motive:=fun _=>Prop) (getC h.m a.block fun e=>kO e fun e=>rdC e.cells n a.off k) (fun _=>False) a.spot
theorem hloadC_eq (h:Hp) (a:Addr) (n:Nat) (k:List Value->Prop):hloadC h a n k=kO (hload h a n) k:=by
 unfold hloadC hload
 rw [getC_eq]
 cases a.spot with
 | some s=>rfl
 | none =>
   cases tget h.m a.block with
   | none=>rfl
   | some e=>exact rdC_eq _ _ _ _
def hload1C (h:Hp) (a:Addr) (k:Value->Prop):Prop :=
 Option.rec (motive:=fun _=>Prop) (getC h.m a.block fun e=>kO e fun e=>getC e.cells a.off fun v=>kO v k) (fun _=>False) a.spot
theorem hload1C_eq (h:Hp) (a:Addr) (k:Value->Prop):hload1C h a k=kO (hload h a 1) fun l=>match l with | [v]=>k v | _=>False:=by
 unfold hload1C hload
 rw [getC_eq]
 cases a.spot with
 | some s=>rfl
 | none =>
   cases tget h.m a.block with
   | none=>rfl
   | some e =>
     show (getC e.cells a.off fun v=>kO v k)=_
     rw [getC_eq]
     simp only [rd]
     cases tget e.cells a.off<;>rfl
def hstoreC (h:Hp) (a:Addr) (vs:List Value) (k:Hp->Prop):Prop :=
 Option.rec (motive:=fun _=>Prop) (getC h.m a.block fun e=>kO e fun e=>iff1 (wrB e) (rdC e.cells vs.length a.off fun _=>wrC vs e.cells a.off fun cs=>setC (some ⟨cs,e.len,e.unk,none⟩) h.m a.block fun m=>k ⟨m,h.nxt⟩)) (fun _=>False) a.spot
theorem hstoreC_eq (h:Hp) (a:Addr) (vs:List Value) (k:Hp->Prop):hstoreC h a vs k=kO (hstore h a vs) k:=by
 unfold hstoreC hstore
 rw [getC_eq]
 cases a.spot with
 | some s=>rfl
 | none =>
   cases tget h.m a.block with
   | none=>rfl
   | some e =>
     show iff1 (wrB e) (rdC e.cells vs.length a.off fun _=>wrC vs e.cells a.off fun cs=>setC (some ⟨cs,e.len,e.unk,none⟩) h.m a.block fun m=>k ⟨m,h.nxt⟩)=_
     simp only
     cases wrB e with
     | false=>rfl
     | true =>
     show (rdC e.cells vs.length a.off fun _=>wrC vs e.cells a.off fun cs=>setC (some ⟨cs,e.len,e.unk,none⟩) h.m a.block fun m=>k ⟨m,h.nxt⟩)=_
     rw [rdC_eq]
     simp only [cond_true]
     cases hrd:rd e.cells a.off vs.length with
     | none=>simp only [hrd]; rfl
     | some l =>
       simp only [hrd]
       show (wrC vs e.cells a.off fun cs=>setC (some ⟨cs,e.len,e.unk,none⟩) h.m a.block fun m=>k ⟨m,h.nxt⟩)=_
       rw [wrC_eq,setC_eq]
       rfl
def hallocC (h:Hp) (nm:Nat) (e:Ent) (k:Hp->Prop):Prop:=setC (some e) h.m nm fun m=>Bool.rec (motive:=fun _=>Prop) (k ⟨m,h.nxt⟩) (k ⟨m,Nat.succ nm⟩) (Nat.ble h.nxt (Nat.succ nm))
theorem hallocC_eq (h:Hp) (nm:Nat) (e:Ent) (k:Hp->Prop):hallocC h nm e k=k (halloc h nm e):=by
 unfold hallocC halloc
 rw [setC_eq]
 cases hb:Nat.ble h.nxt (Nat.succ nm)
 .have:¬ h.nxt<=nm+1:=fun q=>by rw [Nat.ble_eq_true_of_le q] at hb; cases hb
  have e:max h.nxt (nm+1)=h.nxt:=by omega
  rw [e]
 .have:h.nxt<=nm+1:=Nat.le_of_ble_eq_true hb
  have e:max h.nxt (nm+1)=nm+1:=by omega
  rw [e]
def moveS (x:Operand):Xo:=match opvS x with
 | ⟨p⟩=>⟨fun _ _ T h k=>kO (p T) fun v=>k v h⟩
theorem moveS_ok (E:Env) {o:Oper} {x:Operand} (ho:o.op = .move x\/o.op = .assign x):XoOk E o (moveS x):=by
 refine XoOk.same fun c call hc nm T M h hs k=>?_
 show (kO ((opvS x).fn T) fun v=>k v h)=_
 rw [opvS_eq hs]
 rcases ho with ho | ho<;>simp only [xop,xopR,ho,xMove]<;>cases opv M x<;>rfl
def pickS (c a b:Operand):Xo:=⟨fun _ _ T h k=>kO ((opvS c).fn T) fun v=>isBool v False fun q=>Bool.rec (motive:=fun _=>Prop) (kO ((opvS b).fn T) fun v=>k v h) (kO ((opvS a).fn T) fun v=>k v h) q⟩
theorem pickS_ok (E:Env) {o:Oper} {x a b:Operand} (ho:o.op = .pick x a b):XoOk E o (pickS x a b):=by
 refine XoOk.same fun c call hc nm T M h hs k=>?_
 show (kO ((opvS x).fn T) fun v=>isBool v False fun q=>Bool.rec (motive:=fun _=>Prop) (kO ((opvS b).fn T) fun v=>k v h) (kO ((opvS a).fn T) fun v=>k v h) q)=_
 rw [opvS_eq hs,opvS_eq hs,opvS_eq hs]
 simp only [xop,xopR,ho,xPick]
 cases opv M x with
 | none=>rfl
 | some v =>
   cases v<;>try rfl
   rename_i q
   cases q
   .cases opv M b<;>rfl
   .cases opv M a<;>rfl
def allocS (E:Env) (t:TypeId):Xo:=match tget E.tt t with
 | none=>nowS
 | some ti=>⟨fun _ nm _ h k=>hallocC h nm (allocE E nm t ti.zero) fun h'=>k (newPtr nm) h'⟩
theorem allocS_ok (E:Env) {o:Oper} {t:TypeId} (ho:o.op = .alloc t):XoOk E o (allocS E t):=by
 unfold allocS
 split
 .exact nowS_ok E o
 .rename_i ti hti
  refine XoOk.same fun c call hc nm T M h hs k=>?_
  show (hallocC h nm (allocE E nm t ti.zero) fun h'=>k (newPtr nm) h')=_
  rw [hallocC_eq]
  simp only [xop,xopR,ho,xAlloc,hti]
  rfl
def boxS (x:Operand):Xo:=match opvS x with
 | ⟨p⟩=>⟨fun _ nm T h k=>kO (p T) fun v=>kO (cellsA v) fun cs=>wrC cs .nil 0 fun cells=>hallocC h nm ⟨cells,cs.length,0,none⟩ fun h'=>k (newPtr nm) h'⟩
theorem boxS_ok (E:Env) {o:Oper} {t:TypeId} {x:Operand} (ho:o.op = .box t x):XoOk E o (boxS x):=by
 refine XoOk.same fun c call hc nm T M h hs k=>?_
 show (kO ((opvS x).fn T) fun v=>kO (cellsA v) fun cs=>wrC cs .nil 0 fun cells=>hallocC h nm ⟨cells,cs.length,0,none⟩ fun h'=>k (newPtr nm) h')=_
 rw [opvS_eq hs]
 simp only [xop,xopR,ho,xBox]
 cases opv M x with
 | none=>rfl
 | some v =>
   show (kO (cellsA v) fun cs=>wrC cs .nil 0 fun cells=>hallocC h nm ⟨cells,cs.length,0,none⟩ fun h'=>k (newPtr nm) h')=k2 (ob (cellsA v) _) k
   cases cellsA v with
   | none=>rfl
   | some cs =>
     show (wrC cs .nil 0 fun cells=>hallocC h nm ⟨cells,cs.length,0,none⟩ fun h'=>k (newPtr nm) h')=_
     rw [wrC_eq,hallocC_eq]
     rfl
def loadS (E:Env) (t:TypeId) (a:Operand):Xo:=match tget E.tt t with
 | none=>nowS
 | some ti=>bif ti.agg then (match opvS a with | ⟨p⟩=>⟨fun _ _ T h k=>kO (p T) fun v=>isPtr v fun ad=>hloadC h ad ti.size fun cs=>k (.agg cs.toArray) h⟩)
   else (match opvS a with | ⟨p⟩=>⟨fun _ _ T h k=>kO (p T) fun v=>isPtr v fun ad=>hload1C h ad fun v=>k v h⟩)
theorem loadS_ok (E:Env) {o:Oper} {t:TypeId} {a:Operand} (ho:o.op = .load t a):XoOk E o (loadS E t a):=by
 unfold loadS
 split
 .exact nowS_ok E o
 .rename_i ti hti
  cases hg:ti.agg<;>simp only [cond_true,cond_false]
  .refine XoOk.same fun c call hc nm T M h hs k=>?_
   show (kO ((opvS a).fn T) fun v=>isPtr v fun ad=>hload1C h ad fun v=>k v h)=_
   rw [opvS_eq hs]
   simp only [xop,xopR,ho,xLoad,hti,hg]
   cases opv M a with
   | none=>rfl
   | some v =>
     cases v<;>try rfl
     rename_i ad
     cases ad with
     | none=>rfl
     | some ad =>
       show (hload1C h ad fun v=>k v h)=k2 (bif ti.agg then (ob (hload h ad ti.size) fun cs=>some (.agg cs.toArray,h)) else (match hload h ad 1 with | some [v]=>some (v,h) | _=>none)) k
       rw [hg,hload1C_eq]
       cases hload h ad 1 with
       | none=>rfl
       | some l=>match l with
         | []=>rfl
         | [v]=>rfl
         | _ :: _ :: _=>rfl
  .refine XoOk.same fun c call hc nm T M h hs k=>?_
   show (kO ((opvS a).fn T) fun v=>isPtr v fun ad=>hloadC h ad ti.size fun cs=>k (.agg cs.toArray) h)=_
   rw [opvS_eq hs]
   simp only [xop,xopR,ho,xLoad,hti,hg]
   cases opv M a with
   | none=>rfl
   | some v =>
     cases v<;>try rfl
     rename_i ad
     cases ad with
     | none=>rfl
     | some ad =>
       show (hloadC h ad ti.size fun cs=>k (.agg cs.toArray) h)=k2 (bif ti.agg then (ob (hload h ad ti.size) fun cs=>some (.agg cs.toArray,h)) else (match hload h ad 1 with | some [v]=>some (v,h) | _=>none)) k
       rw [hg,hloadC_eq]
       cases hload h ad ti.size<;>rfl
def storeS (E:Env) (t:TypeId) (a x:Operand):Xo:=match tget E.tt t with
 | none=>nowS
 | some ti=>match opvS a,opvS x with
   | ⟨f⟩,⟨g⟩=>⟨fun _ _ T h k=>kO (f T) fun p=>isPtr p fun ad=>kO (g T) fun v=>kO (cellsA v) fun cs=>iff1 (Nat.beq cs.length ti.size) (hstoreC h ad cs fun h'=>k undefV h')⟩
theorem storeS_ok (E:Env) {o:Oper} {t:TypeId} {a x:Operand} (ho:o.op = .store t a x):XoOk E o (storeS E t a x):=by
 unfold storeS
 split
 .exact nowS_ok E o
 .rename_i ti hti
  refine XoOk.same fun c call hc nm T M h hs k=>?_
  show (kO ((opvS a).fn T) fun p=>isPtr p fun ad=>kO ((opvS x).fn T) fun v=>kO (cellsA v) fun cs=>iff1 (Nat.beq cs.length ti.size) (hstoreC h ad cs fun h'=>k undefV h'))=_
  rw [opvS_eq hs,opvS_eq hs]
  simp only [xop,xopR,ho,xStore,hti]
  cases opv M a with
  | none=>rfl
  | some p =>
    cases p<;>try rfl
    rename_i ad
    cases ad with
    | none=>rfl
    | some ad =>
      cases opv M x with
      | none=>rfl
      | some v =>
        show (kO (cellsA v) fun cs=>iff1 (Nat.beq cs.length ti.size) (hstoreC h ad cs fun h'=>k undefV h'))=k2 (ob (cellsA v) fun cs=>bif Nat.beq cs.length ti.size then ob (hstore h ad cs) fun h'=>some (undefV,h') else none) k
        cases cellsA v with
        | none=>rfl
        | some cs =>
          show iff1 (Nat.beq cs.length ti.size) (hstoreC h ad cs fun h'=>k undefV h')=k2 (bif Nat.beq cs.length ti.size then ob (hstore h ad cs) fun h'=>some (undefV,h') else none) k
          cases Nat.beq cs.length ti.size with
          | false=>rfl
          | true =>
            show (hstoreC h ad cs fun h'=>k undefV h')=k2 (ob (hstore h ad cs) fun h'=>some (undefV,h')) k
            rw [hstoreC_eq]
            cases hstore h ad cs<;>rfl
def nilC (v:Value) (k:Value->Prop):Prop :=
 Value.rec (motive_1:=fun _=>Prop) (motive_2:=fun _=>Prop) (motive_3:=fun _=>Prop) (fun _=>False) (fun _ _=>False) (fun _ _=>False) (fun _ _ _=>False) (fun _=>False) (fun a=>Option.rec (motive:=fun _=>Prop) False (fun ad=>k (.pointer (some ad))) a) (fun _ _ _=>False) (fun _=>False) (fun _=>False) (fun f a b _ _=>Fn.rec (motive:=fun _=>Prop) (fun g=>k (.func (.func g) a b)) (fun _=>False) (fun _ _=>False) (fun _ _ _ _=>False) (fun _=>False) f) False (fun _ _ _=>False) False (fun _ _=>False) (fun _ _=>False) (fun _ _=>True) True (fun _ _ _ _=>True) v
def nilS (x:Operand):Xo:=match opvS x with
 | ⟨p⟩=>⟨fun _ _ T h k=>kO (p T) fun v=>nilC v fun v=>k v h⟩
theorem nilS_ok (E:Env) {o:Oper} {x:Operand} (ho:o.op = .nilCheck x):XoOk E o (nilS x):=by
 refine XoOk.same fun c call hc nm T M h hs k=>?_
 show (kO ((opvS x).fn T) fun v=>nilC v fun v=>k v h)=_
 rw [opvS_eq hs]
 simp only [xop,xopR,ho,xNil]
 cases opv M x with
 | none=>rfl
 | some v =>
   cases v<;>try rfl
   .rename_i ad
    cases ad<;>rfl
   .rename_i fr a b
    cases fr<;>rfl
def okI (n:Nat) (k:Int->Prop) (e:Prop):Prop:=Bool.rec (motive:=fun _=>Prop) e (fN n fun n=>k (.ofNat n)) (Nat.blt n 9223372036854775808)
def addC (m n:Int) (k:Int->Prop):Prop :=
 Int.rec (motive:=fun _=>Prop) (fun a=>Int.rec (motive:=fun _=>Prop) (fun b=>okI (Nat.add a b) k (fI (wrapF (Int.add m n)) k)) (fun _=>fI (wrapF (Int.add m n)) k) n) (fun _=>fI (wrapF (Int.add m n)) k) m
def subC (m n:Int) (k:Int->Prop):Prop :=
 Int.rec (motive:=fun _=>Prop) (fun a=>Int.rec (motive:=fun _=>Prop) (fun b=>Bool.rec (motive:=fun _=>Prop) (fI (wrapF (Int.sub m n)) k) (okI (Nat.sub a b) k (fI (wrapF (Int.sub m n)) k)) (Nat.ble b a)) (fun _=>fI (wrapF (Int.sub m n)) k) n) (fun _=>fI (wrapF (Int.sub m n)) k) m
def ltC (m n:Int) (k:Bool->Prop):Prop :=
 Int.rec (motive:=fun _=>Prop) (fun a=>Int.rec (motive:=fun _=>Prop) (fun b=>fB (Nat.blt a b) k) (fun _=>k false) n) (fun a=>Int.rec (motive:=fun _=>Prop) (fun _=>k true) (fun b=>fB (Nat.blt b a) k) n) m
def eqC (m n:Int) (k:Bool->Prop):Prop :=
 Int.rec (motive:=fun _=>Prop) (fun a=>Int.rec (motive:=fun _=>Prop) (fun b=>fB (Nat.beq a b) k) (fun _=>k false) n) (fun a=>Int.rec (motive:=fun _=>Prop) (fun _=>k false) (fun b=>fB (Nat.beq a b) k) n) m
theorem okI_eq {n:Nat} {k:Int->Prop} {x:Int} (hx:x = .ofNat n):okI n k (fI (wrapF x) k)=k (wrapF x):=by
 subst hx
 unfold okI
 cases hb:Nat.blt n 9223372036854775808
 .exact fI_eq _ _
 .show (fN n fun n=>k (.ofNat n))=_
  rw [fN_eq]
  have:inI64 (Int.ofNat n)=true:=hb
  unfold wrapF
  rw [this]
  rfl
theorem addC_eq (m n:Int) (k:Int->Prop):addC m n k=k (wrapF (Int.add m n)):=by
 cases m<;>cases n
 .exact okI_eq rfl
 all_goals exact fI_eq _ _
theorem subC_eq (m n:Int) (k:Int->Prop):subC m n k=k (wrapF (Int.sub m n)):=by
 cases m<;>cases n
 .rename_i a b
  show Bool.rec (motive:=fun _=>Prop) (fI (wrapF (Int.sub (.ofNat a) (.ofNat b))) k) (okI (Nat.sub a b) k (fI (wrapF (Int.sub (.ofNat a) (.ofNat b))) k)) (Nat.ble b a)=_
  cases hb:Nat.ble b a
  .exact fI_eq _ _
  .refine okI_eq ?_
   have:=Nat.le_of_ble_eq_true hb
   exact (Int.ofNat_sub this).symm
 all_goals exact fI_eq _ _
theorem ltC_eq (m n:Int) (k:Bool->Prop):ltC m n k=k (iLt m n):=by
 cases m<;>cases n<;>first | rfl | exact fB_eq _ _
theorem eqC_eq (m n:Int) (k:Bool->Prop):eqC m n k=k (iEq m n):=by
 cases m<;>cases n<;>first | rfl | exact fB_eq _ _
def fNot (b:Bool) (k:Bool->Prop):Prop:=Bool.rec (motive:=fun _=>Prop) (k true) (k false) b
theorem fNot_eq (b:Bool) (k:Bool->Prop):fNot b k=k (!b):=by cases b<;>rfl
structure F2 where
 f0:Int->Int->(Value->Prop)->Prop
def F2.fn (X:F2) (x0:Int) (x1:Int) (x2:(Value->Prop)):Prop:=F2.rec (motive:=fun _=>Prop) (fun f=>f x0 x1 x2) X
theorem F2.fn_mk (f:Int->Int->(Value->Prop)->Prop) (x0:Int) (x1:Int) (x2:(Value->Prop)):(F2.mk f).fn x0 x1 x2=f x0 x1 x2:=rfl
def fast2:BinOp->Option F2
 | .add=>some ⟨fun m n k=>addC m n fun r=>k (.int .i64 r)⟩
 | .sub=>some ⟨fun m n k=>subC m n fun r=>k (.int .i64 r)⟩
 | .mul=>some ⟨fun m n k=>fI (wrapF (Int.mul m n)) fun r=>k (.int .i64 r)⟩
 | .eql=>some ⟨fun m n k=>eqC m n fun r=>k (.bool r)⟩
 | .neq=>some ⟨fun m n k=>eqC m n fun r=>fNot r fun r=>k (.bool r)⟩
 | .lss=>some ⟨fun m n k=>ltC m n fun r=>k (.bool r)⟩
 | .leq=>some ⟨fun m n k=>ltC n m fun r=>fNot r fun r=>k (.bool r)⟩
 | .gtr=>some ⟨fun m n k=>ltC n m fun r=>k (.bool r)⟩
 | .geq=>some ⟨fun m n k=>ltC m n fun r=>fNot r fun r=>k (.bool r)⟩
 | _=>none
theorem fast2_ok {op:BinOp} {F:F2} (h:fast2 op=some F) (m n:Int):∃ w,fastI op m n=some w/\∀ k,F.fn m n k=k w:=by
 cases op<;>simp only [fast2,reduceCtorEq,Option.some.injEq] at h<;>subst h<;>refine ⟨_,rfl,fun k=>?_⟩<;>simp only [F2.fn,fI_eq,addC_eq,subC_eq,ltC_eq,eqC_eq,fNot_eq]
def binS (E:Env) (o:Oper) (op:BinOp) (x y:Operand):Xo:=match fast2 op with
 | none=>anyS E o
 | some F=>match opvS x,opvS y,F with
   | ⟨p⟩,⟨q⟩,⟨f⟩=>⟨fun c nm T h k=>kO (p T) fun a=>kO (q T) fun b=>isI a ((anyS E o).fn c nm T h k) fun m=>isI b ((anyS E o).fn c nm T h k) fun n=>f m n fun v=>k v h⟩
theorem binS_ok (E:Env) {o:Oper} {op:BinOp} {t t2:TypeId} {x y:Operand} (ho:o.op = .binOp op t x y t2):XoOk E o (binS E o op x y):=by
 unfold binS
 split
 .exact anyS_ok E o
 .rename_i F hF
  intro c call hc nm T M h hs
  obtain ⟨r,h1,h2⟩:=anyS_ok E o c call hc nm T M h hs
  change ∃ r:Option (Value × Hp),(∀ k,(Xo.mk fun c nm T h k=>kO ((opvS x).fn T) fun a=>kO ((opvS y).fn T) fun b=>isI a ((anyS E o).fn c nm T h k) fun m=>isI b ((anyS E o).fn c nm T h k) fun n=>F.fn m n fun v=>k v h).fn c nm T h k=k2 r k)/\∀ p,r=some p->xop E call nm o M h=some p
  have hsh:∀ k,(Xo.mk fun c nm T h k=>kO ((opvS x).fn T) fun a=>kO ((opvS y).fn T) fun b=>isI a ((anyS E o).fn c nm T h k) fun m=>isI b ((anyS E o).fn c nm T h k) fun n=>F.fn m n fun v=>k v h).fn c nm T h k=kO (opv M x) fun a=>kO (opv M y) fun b=>isI a (k2 r k) fun m=>isI b (k2 r k) fun n=>F.fn m n fun v=>k v h:=by
   intro k
   show (kO ((opvS x).fn T) fun a=>kO ((opvS y).fn T) fun b=>isI a ((anyS E o).fn c nm T h k) fun m=>isI b ((anyS E o).fn c nm T h k) fun n=>F.fn m n fun v=>k v h)=_
   rw [opvS_eq hs,opvS_eq hs,h1]
  cases hx:opv M x with
  | none=>exact ⟨none,fun k=>by rw [hsh,hx]; rfl,fun _ e=>by cases e⟩
  | some a =>
    cases hy:opv M y with
    | none=>exact ⟨none,fun k=>by rw [hsh,hx,hy]; rfl,fun _ e=>by cases e⟩
    | some b =>
      by_cases ha:∃ m,a = .int .i64 m
      .obtain ⟨m,rfl⟩:=ha
       by_cases hb:∃ n,b = .int .i64 n
       .obtain ⟨n,rfl⟩:=hb
        obtain ⟨w,f1,f2⟩:=fast2_ok hF m n
        refine ⟨some (w,h),fun k=>?_,fun p e=>?_⟩
        .rw [hsh,hx,hy]
         exact f2 _
        .cases e
         simp only [xop,xopR,ho,xBin,hx,hy,fastB,f1]
       .refine ⟨r,fun k=>?_,h2⟩
        rw [hsh,hx,hy]
        exact isI_else (fun n e=>hb ⟨n,e⟩) _ _
      .refine ⟨r,fun k=>?_,h2⟩
       rw [hsh,hx,hy]
       exact isI_else (fun n e=>ha ⟨n,e⟩) _ _
def unS (E:Env) (o:Oper) (op:UnOp) (x:Operand):Xo:=match op with
 | .not=>⟨fun c nm T h k=>kO ((opvS x).fn T) fun v=>isBool v False fun b=>fNot b fun b=>k (.bool b) h⟩
 | _=>anyS E o
theorem unS_ok (E:Env) {o:Oper} {op:UnOp} {t:TypeId} {x:Operand} (ho:o.op = .unOp op t x):XoOk E o (unS E o op x):=by
 unfold unS
 split
 .intro c call hc nm T M h hs
  have hsh:∀ k,(Xo.mk fun c nm T h k=>kO ((opvS x).fn T) fun v=>isBool v False fun b=>fNot b fun b=>k (.bool b) h).fn c nm T h k=kO (opv M x) fun v=>isBool v False fun b=>k (.bool (!b)) h:=by
   intro k
   show (kO ((opvS x).fn T) fun v=>isBool v False fun b=>fNot b fun b=>k (.bool b) h)=_
   rw [opvS_eq hs]
   simp only [fNot_eq]
  cases hx:opv M x with
  | none=>exact ⟨none,fun k=>by rw [hsh,hx]; rfl,fun _ e=>by cases e⟩
  | some v =>
    by_cases hv:∃ b,v = .bool b
    .obtain ⟨b,rfl⟩:=hv
     refine ⟨some (.bool (!b),h),fun k=>by rw [hsh,hx]; rfl,fun p e=>?_⟩
     cases e
     simp only [xop,xopR,ho,xUn,hx]
    .refine ⟨none,fun k=>?_,fun _ e=>by cases e⟩
     rw [hsh,hx]
     exact isBool_else (fun b e=>hv ⟨b,e⟩) _ _
 .exact anyS_ok E o
def fieldS (E:Env) (s:TypeId) (x:Operand) (f:Nat):Xo:=match tget E.tt s with
 | none=>nowS
 | some ti=>match ti.flds[f]? with
   | none=>nowS
   | some fl=>bif Nat.beq ti.kind 3&&!(Nat.beq fl.2 0) then (match opvS x with | ⟨p⟩=>⟨fun _ _ T h k=>kO (p T) fun v=>isPtr v fun ad=>Option.rec (motive:=fun _=>Prop) (fN (Nat.add ad.off fl.1) fun off=>k (.pointer (some ⟨ad.block,off,none⟩)) h) (fun _=>False) ad.spot⟩) else nowS
theorem fieldS_ok (E:Env) {o:Oper} {s:TypeId} {x:Operand} {f:Nat} (ho:o.op = .fieldAddr s x f):XoOk E o (fieldS E s x f):=by
 unfold fieldS
 split
 .exact nowS_ok E o
 .rename_i ti hti
  split
  .exact nowS_ok E o
  .rename_i fl hfl
   cases hq:(Nat.beq ti.kind 3&&!(Nat.beq fl.2 0))<;>simp only [cond_true,cond_false]
   .exact nowS_ok E o
   .refine XoOk.same fun c call hc nm T M h hs k=>?_
    show (kO ((opvS x).fn T) fun v=>isPtr v fun ad=>Option.rec (motive:=fun _=>Prop) (fN (ad.off+fl.1) fun off=>k (.pointer (some ⟨ad.block,off,none⟩)) h) (fun _=>False) ad.spot)=_
    rw [opvS_eq hs]
    simp only [xop,xopR,ho,xField,hti,fN_eq]
    cases opv M x with
    | none=>rfl
    | some v =>
      cases v<;>try rfl
      rename_i ad
      cases ad with
      | none=>rfl
      | some ad =>
        show Option.rec (motive:=fun _=>Prop) (k (.pointer (some ⟨ad.block,ad.off+fl.1,none⟩)) h) (fun _=>False) ad.spot=k2 (ob (ti.flds[f]?) fun fl=>bif Nat.beq ti.kind 3&&!(Nat.beq fl.2 0)&&ad.spot.isNone then some (.pointer (some ⟨ad.block,ad.off+fl.1,none⟩),h) else none) k
        rw [hfl]
        simp only [ob,hq,Bool.true_and]
        cases ad.spot<;>rfl
def idxC (a b:Value) (k:Addr->Nat->Prop):Prop :=
 Value.rec (motive_1:=fun _=>Prop) (motive_2:=fun _=>Prop) (motive_3:=fun _=>Prop) (fun _=>False) (fun _ _=>False) (fun _ _=>False) (fun _ _ _=>False) (fun _=>False) (fun _=>False) (fun a len _=>Option.rec (motive:=fun _=>Prop) False (fun ad=>Value.rec (motive_1:=fun _=>Prop) (motive_2:=fun _=>Prop) (motive_3:=fun _=>Prop) (fun _=>False) (fun _ i=>Int.rec (motive:=fun _=>Prop) (fun i=>iff1 (Nat.blt i len) (Option.rec (motive:=fun _=>Prop) (k ad i) (fun _=>False) ad.spot)) (fun _=>False) i) (fun _ _=>False) (fun _ _ _=>False) (fun _=>False) (fun _=>False) (fun _ _ _=>False) (fun _=>False) (fun _=>False) (fun _ _ _ _ _=>False) False (fun _ _ _=>False) False (fun _ _=>False) (fun _ _=>False) (fun _ _=>True) True (fun _ _ _ _=>True) b) a) (fun _=>False) (fun _=>False) (fun _ _ _ _ _=>False) False (fun _ _ _=>False) False (fun _ _=>False) (fun _ _=>False) (fun _ _=>True) True (fun _ _ _ _=>True) a
def idxP (a b:Value) (len:Nat) (k:Addr->Nat->Prop):Prop :=
 Value.rec (motive_1:=fun _=>Prop) (motive_2:=fun _=>Prop) (motive_3:=fun _=>Prop) (fun _=>False) (fun _ _=>False) (fun _ _=>False) (fun _ _ _=>False) (fun _=>False) (fun a=>Option.rec (motive:=fun _=>Prop) False (fun ad=>Value.rec (motive_1:=fun _=>Prop) (motive_2:=fun _=>Prop) (motive_3:=fun _=>Prop) (fun _=>False) (fun _ i=>Int.rec (motive:=fun _=>Prop) (fun i=>iff1 (Nat.blt i len) (Option.rec (motive:=fun _=>Prop) (k ad i) (fun _=>False) ad.spot)) (fun _=>False) i) (fun _ _=>False) (fun _ _ _=>False) (fun _=>False) (fun _=>False) (fun _ _ _=>False) (fun _=>False) (fun _=>False) (fun _ _ _ _ _=>False) False (fun _ _ _=>False) False (fun _ _=>False) (fun _ _=>False) (fun _ _=>True) True (fun _ _ _ _=>True) b) a) (fun _ _ _=>False) (fun _=>False) (fun _=>False) (fun _ _ _ _ _=>False) False (fun _ _ _=>False) False (fun _ _=>False) (fun _ _=>False) (fun _ _=>True) True (fun _ _ _ _=>True) a
def idxS (E:Env) (t:TypeId) (x ix:Operand):Xo:=match tget E.tt t with
 | none=>nowS
 | some ti=>match tget E.tt ti.elem with
   | none=>nowS
   | some ei=>bif Nat.beq ti.kind 1 then ⟨fun _ _ T h k=>kO ((opvS x).fn T) fun a=>kO ((opvS ix).fn T) fun b=>idxC a b fun ad i=>fN (ad.off+i*ei.size) fun off=>k (.pointer (some ⟨ad.block,off,none⟩)) h⟩
     else bif Nat.beq ti.kind 2 then ⟨fun _ _ T h k=>kO ((opvS x).fn T) fun a=>kO ((opvS ix).fn T) fun b=>idxP a b ti.alen fun ad i=>fN (ad.off+i*ei.size) fun off=>k (.pointer (some ⟨ad.block,off,none⟩)) h⟩
     else nowS
theorem dec_ofNat (i n:Nat):decide (Int.ofNat i<(n:Int))=Nat.blt i n:=by
 cases hb:Nat.blt i n
 .have:=blt_ge hb
  rw [decide_eq_false_iff_not]
  simp only [Int.ofNat_eq_natCast]
  omega
 .have:=blt_lt hb
  rw [decide_eq_true_eq]
  simp only [Int.ofNat_eq_natCast]
  omega
theorem idxS_ok (E:Env) {o:Oper} {t:TypeId} {x ix:Operand} (ho:o.op = .indexAddr t x ix):XoOk E o (idxS E t x ix):=by
 unfold idxS
 split
 .exact nowS_ok E o
 .rename_i ti hti
  split
  .exact nowS_ok E o
  .rename_i ei hei
   have pos:∀ i:Nat,decide ((0:Int)<=Int.ofNat i)=true:=fun i=>by rw [decide_eq_true_eq]; simp only [Int.ofNat_eq_natCast]; omega
   have neg:∀ i:Nat,decide ((0:Int)<=Int.negSucc i)=false:=fun i=>by rw [decide_eq_false_iff_not]; simp only [Int.negSucc_eq]; omega
   cases hk:Nat.beq ti.kind 1<;>simp only [cond_true,cond_false]
   .cases hk2:Nat.beq ti.kind 2<;>simp only [cond_true,cond_false]
    .exact nowS_ok E o
    .intro c call hc nm T M h hs
     have hsh:∀ k,(Xo.mk fun _ _ T h k=>kO ((opvS x).fn T) fun a=>kO ((opvS ix).fn T) fun b=>idxP a b ti.alen fun ad i=>fN (ad.off+i*ei.size) fun off=>k (.pointer (some ⟨ad.block,off,none⟩)) h).fn c nm T h k=kO (opv M x) fun a=>kO (opv M ix) fun b=>idxP a b ti.alen fun ad i=>k (.pointer (some ⟨ad.block,ad.off+i*ei.size,none⟩)) h:=by
      intro k
      show (kO ((opvS x).fn T) fun a=>kO ((opvS ix).fn T) fun b=>idxP a b ti.alen fun ad i=>fN (ad.off+i*ei.size) fun off=>k (.pointer (some ⟨ad.block,off,none⟩)) h)=_
      rw [opvS_eq hs,opvS_eq hs]
      simp only [fN_eq]
     have bad:(∀ k:Value->Hp->Prop,(kO (opv M x) fun a=>kO (opv M ix) fun b=>idxP a b ti.alen fun ad i=>k (.pointer (some ⟨ad.block,ad.off+i*ei.size,none⟩)) h)=False)->∃ r:Option (Value × Hp),(∀ k,(Xo.mk fun _ _ T h k=>kO ((opvS x).fn T) fun a=>kO ((opvS ix).fn T) fun b=>idxP a b ti.alen fun ad i=>fN (ad.off+i*ei.size) fun off=>k (.pointer (some ⟨ad.block,off,none⟩)) h).fn c nm T h k=k2 r k)/\∀ p,r=some p->xop E call nm o M h=some p :=
      fun hf=>⟨none,fun k=>(hsh k).trans (hf k),fun _ e=>by cases e⟩
     cases hx:opv M x with
     | none=>exact bad fun k=>by rw [hx]; rfl
     | some a =>
       cases hy:opv M ix with
       | none=>exact bad fun k=>by rw [hx,hy]; rfl
       | some b =>
         cases a<;>try (exact bad fun k=>by rw [hx,hy]; rfl)
         rename_i ad
         cases ad with
         | none=>exact bad fun k=>by rw [hx,hy]; rfl
         | some ad =>
           cases b<;>try (exact bad fun k=>by rw [hx,hy]; rfl)
           rename_i kd i
           cases i with
           | negSucc i=>exact bad fun k=>by rw [hx,hy]; rfl
           | ofNat i =>
             refine ⟨xop E call nm o M h,fun k=>?_,fun _ e=>e⟩
             rw [hsh,hx,hy]
             simp only [xop,xopR,ho,xIdx,hx,hy,hti,hei,ob,hk2,pos,dec_ofNat,Bool.true_and]
             show iff1 (Nat.blt i ti.alen) (Option.rec (motive:=fun _=>Prop) (k (.pointer (some ⟨ad.block,ad.off+i*ei.size,none⟩)) h) (fun _=>False) ad.spot)=k2 (bif Nat.blt i ti.alen&&ad.spot.isNone then some (.pointer (some ⟨ad.block,ad.off+i*ei.size,none⟩),h) else none) k
             cases Nat.blt i ti.alen<;>cases ad.spot<;>rfl
   .intro c call hc nm T M h hs
    have hsh:∀ k,(Xo.mk fun _ _ T h k=>kO ((opvS x).fn T) fun a=>kO ((opvS ix).fn T) fun b=>idxC a b fun ad i=>fN (ad.off+i*ei.size) fun off=>k (.pointer (some ⟨ad.block,off,none⟩)) h).fn c nm T h k=kO (opv M x) fun a=>kO (opv M ix) fun b=>idxC a b fun ad i=>k (.pointer (some ⟨ad.block,ad.off+i*ei.size,none⟩)) h:=by
     intro k
     show (kO ((opvS x).fn T) fun a=>kO ((opvS ix).fn T) fun b=>idxC a b fun ad i=>fN (ad.off+i*ei.size) fun off=>k (.pointer (some ⟨ad.block,off,none⟩)) h)=_
     rw [opvS_eq hs,opvS_eq hs]
     simp only [fN_eq]
    have bad:(∀ k:Value->Hp->Prop,(kO (opv M x) fun a=>kO (opv M ix) fun b=>idxC a b fun ad i=>k (.pointer (some ⟨ad.block,ad.off+i*ei.size,none⟩)) h)=False)->∃ r:Option (Value × Hp),(∀ k,(Xo.mk fun _ _ T h k=>kO ((opvS x).fn T) fun a=>kO ((opvS ix).fn T) fun b=>idxC a b fun ad i=>fN (ad.off+i*ei.size) fun off=>k (.pointer (some ⟨ad.block,off,none⟩)) h).fn c nm T h k=k2 r k)/\∀ p,r=some p->xop E call nm o M h=some p :=
     fun hf=>⟨none,fun k=>(hsh k).trans (hf k),fun _ e=>by cases e⟩
    cases hx:opv M x with
    | none=>exact bad fun k=>by rw [hx]; rfl
    | some a =>
      cases hy:opv M ix with
      | none=>exact bad fun k=>by rw [hx,hy]; rfl
      | some b =>
        cases a<;>try (exact bad fun k=>by rw [hx,hy]; rfl)
        rename_i ad len cp
        cases ad with
        | none=>exact bad fun k=>by rw [hx,hy]; rfl
        | some ad =>
          cases b<;>try (exact bad fun k=>by rw [hx,hy]; rfl)
          rename_i kd i
          cases i with
          | negSucc i=>exact bad fun k=>by rw [hx,hy]; rfl
          | ofNat i =>
            refine ⟨xop E call nm o M h,fun k=>?_,fun _ e=>e⟩
            rw [hsh,hx,hy]
            simp only [xop,xopR,ho,xIdx,hx,hy,hti,hei,ob,hk,pos,dec_ofNat,Bool.true_and]
            show iff1 (Nat.blt i len) (Option.rec (motive:=fun _=>Prop) (k (.pointer (some ⟨ad.block,ad.off+i*ei.size,none⟩)) h) (fun _=>False) ad.spot)=k2 (bif Nat.blt i len&&ad.spot.isNone then some (.pointer (some ⟨ad.block,ad.off+i*ei.size,none⟩),h) else none) k
            cases Nat.blt i len<;>cases ad.spot<;>rfl
structure Rds where
 f0:FT->(List Value->Prop)->Prop
def Rds.fn (X:Rds) (x0:FT) (x1:(List Value->Prop)):Prop:=Rds.rec (motive:=fun _=>Prop) (fun f=>f x0 x1) X
theorem Rds.fn_mk (f:FT->(List Value->Prop)->Prop) (x0:FT) (x1:(List Value->Prop)):(Rds.mk f).fn x0 x1=f x0 x1:=rfl
def opvsS:List Operand->Rds
 | []=>⟨fun _ k=>k []⟩
 | x :: l=>match opvS x,opvsS l with
   | ⟨p⟩,⟨q⟩=>⟨fun T k=>kO (p T) fun v=>q T fun r=>k (v :: r)⟩
theorem opvsS_eq {T:FT} {M:Tm} (h:Sim T M):∀ (l:List Operand) (k:List Value->Prop),(opvsS l).fn T k=kO (opvs (opv M) l) k
 | [],k=>rfl
 | x :: l,k=>by
   show (kO ((opvS x).fn T) fun v=>(opvsS l).fn T fun r=>k (v :: r))=_
   rw [opvS_eq h]
   simp only [opvs]
   cases opv M x with
   | none=>rfl
   | some v =>
     show ((opvsS l).fn T fun r=>k (v :: r))=_
     rw [opvsS_eq h l]
     cases opvs (opv M) l<;>rfl
def isFn (v:Value) (k:Nat->Array Value->Array Value->Prop) (ky:Nat->Prop):Prop :=
 Value.rec (motive_1:=fun _=>Prop) (motive_2:=fun _=>Prop) (motive_3:=fun _=>Prop) (fun _=>False) (fun _ _=>False) (fun _ _=>False) (fun _ _ _=>False) (fun _=>False) (fun _=>False) (fun _ _ _=>False) (fun _=>False) (fun _=>False) (fun f a b _ _=>Fn.rec (motive:=fun _=>Prop) (fun g=>k g a b) (fun _=>False) (fun _ _=>False) (fun _ _ _ _=>False) ky f) False (fun _ _ _=>False) False (fun _ _=>False) (fun _ _=>False) (fun _ _=>True) True (fun _ _ _ _=>True) v
def callVS (f:Operand) (args:List Operand):Xo:=match f with
 | .func g=>bif Nat.blt g unkU then (match opvsS args with
    | ⟨p⟩=>⟨fun c _ T h k=>p T fun vs=>c g vs h k⟩) else nowS
 | _=>⟨fun c _ T h k=>kO ((opvS f).fn T) fun fv=>isFn fv (fun g first cap=>(opvsS args).fn T fun vs=>iff1 (Nat.blt g unkU) (c g (first.toList++vs++cap.toList) h k)) (fun l=>(opvsS args).fn T fun vs=>c (unkU+l) vs h k)⟩
theorem callVS_ok (E:Env) {o:Oper} {cl:Call} {f:Operand} (ho:o.op = .call cl) (hf:cl.callee = .value f):XoOk E o (callVS f cl.args.toList):=by
 unfold callVS
 split
 .rename_i g
  cases hb:Nat.blt g unkU with
  | false=>exact nowS_ok E o
  | true =>
  refine XoOk.same fun c call hc nm T M h hs k=>?_
  show ((opvsS cl.args.toList).fn T fun vs=>c g vs h k)=_
  rw [opvsS_eq hs]
  simp only [xop,xopR,ho,xCall,hf,xCallV,opv]
  cases opvs (opv M) cl.args.toList with
  | none=>rfl
  | some vs =>
    show c g vs h k=k2 (bif Nat.blt g unkU then call g ([]++vs++[]) h else none) k
    rw [hc,hb]
    simp
 .refine XoOk.same fun c call hc nm T M h hs k=>?_
  show (kO ((opvS f).fn T) fun fv=>isFn fv (fun g first cap=>(opvsS cl.args.toList).fn T fun vs=>iff1 (Nat.blt g unkU) (c g (first.toList++vs++cap.toList) h k)) (fun l=>(opvsS cl.args.toList).fn T fun vs=>c (unkU+l) vs h k))=_
  rw [opvS_eq hs]
  simp only [opvsS_eq hs,xop,xopR,ho,xCall,hf,xCallV]
  cases opv M f with
  | none=>rfl
  | some fv =>
    cases fv<;>try rfl
    rename_i fr a b
    cases fr<;>try rfl
    .rename_i g
     cases opvs (opv M) cl.args.toList with
     | none=>rfl
     | some vs =>
       show iff1 (Nat.blt g unkU) (c g (a.toList++vs++b.toList) h k)=k2 (bif Nat.blt g unkU then call g (a.toList++vs++b.toList) h else none) k
       cases Nat.blt g unkU with
       | false=>rfl
       | true=>exact hc _ _ _ _
    .cases opvs (opv M) cl.args.toList with
     | none=>rfl
     | some vs=>exact hc _ _ _ _
def isIf (v:Value) (k:TypeId->Value->Prop):Prop :=
 Value.rec (motive_1:=fun _=>Prop) (motive_2:=fun _=>Prop) (motive_3:=fun _=>Prop) (fun _=>False) (fun _ _=>False) (fun _ _=>False) (fun _ _ _=>False) (fun _=>False) (fun _=>False) (fun _ _ _=>False) (fun _=>False) (fun _=>False) (fun _ _ _ _ _=>False) False (fun t u _=>k t u) False (fun _ _=>False) (fun _ _=>False) (fun _ _=>True) True (fun _ _ _ _=>True) v
def callIS (E:Env) (r:Operand) (name:String) (args:List Operand):Xo:=⟨fun c _ T h k=>kO ((opvS r).fn T) fun rv=>isIf rv fun t u=>(opvsS args).fn T fun vs=>kO (tget E.tt t) fun ti=>iff1 (Nat.ble 1 ti.kind&&!(Nat.beq ti.kind 7)) (kO (methOf E.P t name) fun g=>iff1 (Nat.blt g unkU) (c g (u :: vs) h k))⟩
theorem callIS_ok (E:Env) {o:Oper} {cl:Call} {r:Operand} {name:String} (ho:o.op = .call cl) (hf:cl.callee = .invoke r name):XoOk E o (callIS E r name cl.args.toList):=by
 refine XoOk.same fun c call hc nm T M h hs k=>?_
 show (kO ((opvS r).fn T) fun rv=>isIf rv fun t u=>(opvsS cl.args.toList).fn T fun vs=>kO (tget E.tt t) fun ti=>iff1 (Nat.ble 1 ti.kind&&!(Nat.beq ti.kind 7)) (kO (methOf E.P t name) fun g=>iff1 (Nat.blt g unkU) (c g (u :: vs) h k)))=_
 rw [opvS_eq hs]
 simp only [opvsS_eq hs,xop,xopR,ho,xCall,hf,xCallI]
 cases opv M r with
 | none=>rfl
 | some rv =>
   cases rv<;>try rfl
   rename_i t u
   cases opvs (opv M) cl.args.toList with
   | none=>rfl
   | some vs =>
     show (kO (tget E.tt t) fun ti=>iff1 (Nat.ble 1 ti.kind&&!(Nat.beq ti.kind 7)) (kO (methOf E.P t name) fun g=>iff1 (Nat.blt g unkU) (c g (u :: vs) h k)))=k2 (ob (tget E.tt t) fun ti=>bif Nat.ble 1 ti.kind&&!(Nat.beq ti.kind 7) then ob (methOf E.P t name) fun g=>bif Nat.blt g unkU then call g (u :: vs) h else none else none) k
     cases tget E.tt t with
     | none=>rfl
     | some ti =>
       show iff1 (Nat.ble 1 ti.kind&&!(Nat.beq ti.kind 7)) (kO (methOf E.P t name) fun g=>iff1 (Nat.blt g unkU) (c g (u :: vs) h k))=k2 (bif Nat.ble 1 ti.kind&&!(Nat.beq ti.kind 7) then ob (methOf E.P t name) fun g=>bif Nat.blt g unkU then call g (u :: vs) h else none else none) k
       cases (Nat.ble 1 ti.kind&&!(Nat.beq ti.kind 7)) with
       | false=>rfl
       | true =>
         show (kO (methOf E.P t name) fun g=>iff1 (Nat.blt g unkU) (c g (u :: vs) h k))=k2 (ob (methOf E.P t name) fun g=>bif Nat.blt g unkU then call g (u :: vs) h else none) k
         cases methOf E.P t name with
         | none=>rfl
         | some g =>
           show iff1 (Nat.blt g unkU) (c g (u :: vs) h k)=k2 (bif Nat.blt g unkU then call g (u :: vs) h else none) k
           cases Nat.blt g unkU with
           | false=>rfl
           | true=>exact hc _ _ _ _
def lenS (E:Env) (o:Oper) (x:Operand) (t:TypeId):Xo:=match tget E.tt t with
 | none=>anyS E o
 | some ti=>bif Nat.beq ti.kind 1 then ⟨fun _ _ T h k=>kO ((opvS x).fn T) fun v=>isSl v False fun n=>k (.int .i64 (Int.ofNat n)) h⟩
   else bif Nat.beq ti.kind 4 then ⟨fun _ _ T h k=>kO ((opvS x).fn T) fun v=>isStr v False fun s=>fN s.size fun n=>k (.int .i64 (Int.ofNat n)) h⟩ else anyS E o
theorem isSl_else {v:Value} (h:∀ a n c,v≠.slice a n c) (e:Prop) (k:Nat->Prop):isSl v e k=e:=by
 cases v<;>try rfl
 rename_i a n c
 exact absurd rfl (h a n c)
theorem isStr_else {v:Value} (h:∀ s,v≠.string s) (e:Prop) (k:ByteArray->Prop):isStr v e k=e:=by
 cases v<;>try rfl
 rename_i s
 exact absurd rfl (h s)
theorem lenS_ok (E:Env) {o:Oper} {cl:Call} {x:Operand} {t:TypeId} (ho:o.op = .call cl) (hf:cl.callee = .builtin .len) (ha:cl.args.toList=[x]) (ht:cl.argTypes.toList=[t]):XoOk E o (lenS E o x t):=by
 unfold lenS
 split
 .exact anyS_ok E o
 .rename_i ti hti
  cases hk:Nat.beq ti.kind 1<;>simp only [cond_true,cond_false]
  .cases hk4:Nat.beq ti.kind 4<;>simp only [cond_true,cond_false]
   .exact anyS_ok E o
   .intro c call hc nm T M h hs
    have hsh:∀ k,(Xo.mk fun _ _ T h k=>kO ((opvS x).fn T) fun v=>isStr v False fun s=>fN s.size fun n=>k (.int .i64 (Int.ofNat n)) h).fn c nm T h k=kO (opv M x) fun v=>isStr v False fun s=>k (.int .i64 (Int.ofNat s.size)) h:=by
     intro k
     show (kO ((opvS x).fn T) fun v=>isStr v False fun s=>fN s.size fun n=>k (.int .i64 (Int.ofNat n)) h)=_
     rw [opvS_eq hs]
     simp only [fN_eq]
    cases hx:opv M x with
    | none=>exact ⟨none,fun k=>by rw [hsh,hx]; rfl,fun _ e=>by cases e⟩
    | some v =>
      by_cases hv:∃ s,v = .string s
      .obtain ⟨s,rfl⟩:=hv
       refine ⟨some (.int .i64 (Int.ofNat s.size),h),fun k=>by rw [hsh,hx]; rfl,fun p e=>?_⟩
       cases e
       simp only [xop,xopR,ho,xCall,hf,xCallB,ha,ht,opvs,hx,xbuiltin,hti,ob,hk4,cond_true]
       rfl
      .refine ⟨none,fun k=>?_,fun _ e=>by cases e⟩
       rw [hsh,hx]
       exact isStr_else (fun s e=>hv ⟨s,e⟩) _ _
  .intro c call hc nm T M h hs
   have hsh:∀ k,(Xo.mk fun _ _ T h k=>kO ((opvS x).fn T) fun v=>isSl v False fun n=>k (.int .i64 (Int.ofNat n)) h).fn c nm T h k=kO (opv M x) fun v=>isSl v False fun n=>k (.int .i64 (Int.ofNat n)) h:=by
    intro k
    show (kO ((opvS x).fn T) fun v=>isSl v False fun n=>k (.int .i64 (Int.ofNat n)) h)=_
    rw [opvS_eq hs]
   cases hx:opv M x with
   | none=>exact ⟨none,fun k=>by rw [hsh,hx]; rfl,fun _ e=>by cases e⟩
   | some v =>
     by_cases hv:∃ a n c,v = .slice a n c
     .obtain ⟨a,n,q,rfl⟩:=hv
      refine ⟨some (.int .i64 (Int.ofNat n),h),fun k=>by rw [hsh,hx]; rfl,fun p e=>?_⟩
      cases e
      simp only [xop,xopR,ho,xCall,hf,xCallB,ha,ht,opvs,hx,xbuiltin,hti,ob,hk,cond_true]
      rfl
     .refine ⟨none,fun k=>?_,fun _ e=>by cases e⟩
      rw [hsh,hx]
      exact isSl_else (fun a n c e=>hv ⟨a,n,c,e⟩) _ _
def minS (E:Env) (o:Oper) (x y:Operand):Xo:=⟨fun c nm T h k=>kO ((opvS x).fn T) fun a=>kO ((opvS y).fn T) fun b=>isI a ((anyS E o).fn c nm T h k) fun m=>isI b ((anyS E o).fn c nm T h k) fun n=>ltC n m fun r=>Bool.rec (motive:=fun _=>Prop) (k (.int .i64 m) h) (k (.int .i64 n) h) r⟩
theorem minS_ok (E:Env) {o:Oper} {cl:Call} {x y:Operand} (ho:o.op = .call cl) (hf:cl.callee = .builtin .min) (ha:cl.args.toList=[x,y]):XoOk E o (minS E o x y):=by
 unfold minS
 intro c call hc nm T M h hs
 obtain ⟨r,h1,h2⟩:=anyS_ok E o c call hc nm T M h hs
 have hsh:∀ k,(Xo.mk fun c nm T h k=>kO ((opvS x).fn T) fun a=>kO ((opvS y).fn T) fun b=>isI a ((anyS E o).fn c nm T h k) fun m=>isI b ((anyS E o).fn c nm T h k) fun n=>ltC n m fun r=>Bool.rec (motive:=fun _=>Prop) (k (.int .i64 m) h) (k (.int .i64 n) h) r).fn c nm T h k=kO (opv M x) fun a=>kO (opv M y) fun b=>isI a (k2 r k) fun m=>isI b (k2 r k) fun n=>Bool.rec (motive:=fun _=>Prop) (k (.int .i64 m) h) (k (.int .i64 n) h) (iLt n m):=by
  intro k
  show (kO ((opvS x).fn T) fun a=>kO ((opvS y).fn T) fun b=>isI a ((anyS E o).fn c nm T h k) fun m=>isI b ((anyS E o).fn c nm T h k) fun n=>ltC n m fun r=>Bool.rec (motive:=fun _=>Prop) (k (.int .i64 m) h) (k (.int .i64 n) h) r)=_
  rw [opvS_eq hs,opvS_eq hs,h1]
  simp only [ltC_eq]
 cases hx:opv M x with
 | none=>exact ⟨none,fun k=>by rw [hsh,hx]; rfl,fun _ e=>by cases e⟩
 | some a =>
   cases hy:opv M y with
   | none=>exact ⟨none,fun k=>by rw [hsh,hx,hy]; rfl,fun _ e=>by cases e⟩
   | some b =>
     by_cases ha':∃ m,a = .int .i64 m
     .obtain ⟨m,rfl⟩:=ha'
      by_cases hb:∃ n,b = .int .i64 n
      .obtain ⟨n,rfl⟩:=hb
       refine ⟨some (.int .i64 (bif iLt n m then n else m),h),fun k=>?_,fun p e=>?_⟩
       .rw [hsh,hx,hy]
        show Bool.rec (motive:=fun _=>Prop) (k (.int .i64 m) h) (k (.int .i64 n) h) (iLt n m)=k (.int .i64 (bif iLt n m then n else m)) h
        cases iLt n m<;>rfl
       .cases e
        simp only [xop,xopR,ho,xCall,hf,xCallB,ha,opvs,hx,hy,xbuiltin]
      .refine ⟨r,fun k=>?_,h2⟩
       rw [hsh,hx,hy]
       exact isI_else (fun n e=>hb ⟨n,e⟩) _ _
     .refine ⟨r,fun k=>?_,h2⟩
      rw [hsh,hx,hy]
      exact isI_else (fun n e=>ha' ⟨n,e⟩) _ _
def put1C (v:Value) (off:Nat):List Value->(List Value->Prop)->Prop :=
 Nat.rec (motive:=fun _=>List Value->(List Value->Prop)->Prop) (fun cs k=>List.rec (motive:=fun _=>Prop) (k []) (fun _ t _=>k (v :: t)) cs) (fun _ ih cs k=>List.rec (motive:=fun _=>Prop) (k []) (fun c t _=>ih t fun t'=>k (c :: t')) cs) off
theorem put1C_eq (v:Value):∀ (off:Nat) (cs:List Value) (k:List Value->Prop),put1C v off cs k=k (lput cs off [v])
 | 0,[],k=>rfl
 | 0,c :: cs,k=>by
   show k (v :: cs)=k (v :: lput cs 0 [])
   cases cs<;>rfl
 | n+1,[],k=>rfl
 | n+1,c :: cs,k=>by
   show (put1C v n cs fun t'=>k (c :: t'))=_
   rw [put1C_eq v n]
   rfl
def putC (vs:List Value) (off:Nat) (cs:List Value) (k:List Value->Prop):Prop :=
 List.rec (motive:=fun _=>Prop) (k (lput cs off vs)) (fun v t _=>List.rec (motive:=fun _=>Prop) (put1C v off cs k) (fun _ _ _=>k (lput cs off vs)) t) vs
theorem putC_eq (vs:List Value) (off:Nat) (cs:List Value) (k:List Value->Prop):putC vs off cs k=k (lput cs off vs):=by
 match vs with
 | []=>rfl
 | [v]=>exact put1C_eq v off cs k
 | _ :: _ :: _=>rfl
structure Bd where
 f0:FT->List Value->(List Value->Prop)->Prop
def Bd.fn (X:Bd) (x0:FT) (x1:List Value) (x2:List Value->Prop):Prop:=Bd.rec (motive:=fun _=>Prop) (fun f=>f x0 x1 x2) X
def bldS (pl:Nat->Option (Nat × Nat)):List (Nat × Operand)->Bd
 | []=>⟨fun _ cs k=>k cs⟩
 | (i,x) :: l=>match pl i with
  | none=>⟨fun _ _ _=>False⟩
  | some (off,sz)=>⟨fun T cs k=>kO ((opvS x).fn T) fun v=>kO (cellsA v) fun vs=>iff1 (Nat.beq vs.length sz&&Nat.ble (off+vs.length) cs.length) (putC vs off cs fun cs'=>(bldS pl l).fn T cs' k)⟩
theorem bldS_eq {T:FT} {M:Tm} (hs:Sim T M) (pl:Nat->Option (Nat × Nat)):∀ (l:List (Nat × Operand)) (cs:List Value) (k:List Value->Prop),(bldS pl l).fn T cs k=kO (partsA (opv M) pl l) fun ps=>kO (fillA cs ps) k
 | [],cs,k=>rfl
 | (i,x) :: l,cs,k=>by
  cases hp:pl i with
  | none =>
    simp only [bldS,partsA,hp]
    rfl
  | some os =>
    obtain ⟨off,sz⟩:=os
    have hsh:(bldS pl ((i,x) :: l)).fn T cs k=kO (opv M x) fun v=>kO (cellsA v) fun vs=>iff1 (Nat.beq vs.length sz&&Nat.ble (off+vs.length) cs.length) (kO (partsA (opv M) pl l) fun ps=>kO (fillA (lput cs off vs) ps) k):=by
     simp only [bldS,hp]
     show (kO ((opvS x).fn T) fun v=>kO (cellsA v) fun vs=>iff1 (Nat.beq vs.length sz&&Nat.ble (off+vs.length) cs.length) (putC vs off cs fun cs'=>(bldS pl l).fn T cs' k))=_
     rw [opvS_eq hs]
     simp only [putC_eq,bldS_eq hs pl l]
    rw [hsh]
    simp only [partsA,hp]
    cases hx:opv M x with
    | none=>rfl
    | some v =>
      cases hq:partsA (opv M) pl l with
      | none =>
        show (kO (cellsA v) fun vs=>iff1 (Nat.beq vs.length sz&&Nat.ble (off+vs.length) cs.length) False)=False
        cases cellsA v with
        | none=>rfl
        | some vs =>
          show iff1 (Nat.beq vs.length sz&&Nat.ble (off+vs.length) cs.length) False=False
          cases (Nat.beq vs.length sz&&Nat.ble (off+vs.length) cs.length)<;>rfl
      | some ps =>
        show (kO (cellsA v) fun vs=>iff1 (Nat.beq vs.length sz&&Nat.ble (off+vs.length) cs.length) (kO (fillA (lput cs off vs) ps) k))=kO (fillA cs ((off,sz,v) :: ps)) k
        simp only [fillA]
        cases cellsA v with
        | none=>rfl
        | some vs =>
          show iff1 (Nat.beq vs.length sz&&Nat.ble (off+vs.length) cs.length) (kO (fillA (lput cs off vs) ps) k)=kO (bif Nat.beq vs.length sz&&Nat.ble (off+vs.length) cs.length then fillA (lput cs off vs) ps else none) k
          cases (Nat.beq vs.length sz&&Nat.ble (off+vs.length) cs.length)<;>rfl
def buildS (E:Env) (o:Oper) (t:TypeId) (parts:List (Nat × Operand)):Xo:=match tget E.tt t with
 | none=>nowS
 | some ti=>bif Nat.beq ti.kind 3 then ⟨fun _ _ T h k=>(bldS (fun i=>ti.flds[i]?) parts).fn T ti.zero fun cs=>k (.agg cs.toArray) h⟩ else anyS E o
theorem buildS_ok (E:Env) {o:Oper} {t:TypeId} {parts:Array (Nat × Operand)} (ho:o.op = .build t parts):XoOk E o (buildS E o t parts.toList):=by
 unfold buildS
 split
 .exact nowS_ok E o
 .rename_i ti hti
  cases hk:Nat.beq ti.kind 3<;>simp only [cond_true,cond_false]
  .exact anyS_ok E o
  .refine XoOk.same fun c call hc nm T M h hs k=>?_
   show ((bldS (fun i=>ti.flds[i]?) parts.toList).fn T ti.zero fun cs=>k (.agg cs.toArray) h)=_
   rw [bldS_eq hs]
   simp only [xop,xopR,ho,xBuild,hti,ob,hk,cond_true]
   cases partsA (opv M) (fun i=>ti.flds[i]?) parts.toList with
   | none=>rfl
   | some ps =>
     show (kO (fillA ti.zero ps) fun cs=>k (.agg cs.toArray) h)=k2 (ob (fillA ti.zero ps) fun cs=>some (.agg cs.toArray,h)) k
     cases fillA ti.zero ps<;>rfl
def bslS (E:Env) (t:TypeId) (len:Nat) (parts:List (Nat × Operand)):Xo:=match tget E.tt t with
 | none=>nowS
 | some ti=>match tget E.tt ti.elem with
   | none=>nowS
   | some ei=>bif Nat.beq ti.kind 1&&Nat.ble (len*ei.size) 16777216&&Nat.ble len 16777216&&Nat.beq ei.zero.length ei.size then
      ⟨fun _ nm T h k=>(bldS (fun i=>some (i*ei.size,ei.size)) parts).fn T (lrep ei.zero len) fun cs=>wrC cs .nil 0 fun cells=>hallocC h nm ⟨cells,cs.length,0,none⟩ fun h'=>k (.slice (some ⟨nm,0,none⟩) len len) h'⟩ else nowS
theorem bslS_ok (E:Env) {o:Oper} {t:TypeId} {len:Nat} {parts:Array (Nat × Operand)} (ho:o.op = .buildSlice t len parts):XoOk E o (bslS E t len parts.toList):=by
 unfold bslS
 split
 .exact nowS_ok E o
 .rename_i ti hti
  split
  .exact nowS_ok E o
  .rename_i ei hei
   cases hk:(Nat.beq ti.kind 1&&Nat.ble (len*ei.size) 16777216&&Nat.ble len 16777216&&Nat.beq ei.zero.length ei.size)<;>simp only [cond_true,cond_false]
   .exact nowS_ok E o
   .refine XoOk.same fun c call hc nm T M h hs k=>?_
    show ((bldS (fun i=>some (i*ei.size,ei.size)) parts.toList).fn T (lrep ei.zero len) fun cs=>wrC cs .nil 0 fun cells=>hallocC h nm ⟨cells,cs.length,0,none⟩ fun h'=>k (.slice (some ⟨nm,0,none⟩) len len) h')=_
    rw [bldS_eq hs]
    simp only [wrC_eq,hallocC_eq,xop,xopR,ho,xBuildSlice,hti,hei,ob,hk,cond_true]
    cases partsA (opv M) (fun i=>some (i*ei.size,ei.size)) parts.toList with
    | none=>rfl
    | some ps =>
      show (kO (fillA (lrep ei.zero len) ps) _)=k2 (ob (fillA (lrep ei.zero len) ps) _) k
      cases fillA (lrep ei.zero len) ps<;>rfl
def callS (E:Env) (o:Oper) (cl:Call):Xo:=match cl.callee with
 | .value f=>callVS f cl.args.toList
 | .builtin .len=>(match cl.args.toList,cl.argTypes.toList with
   | [x],[t]=>lenS E o x t
   | _,_=>anyS E o)
 | .builtin .min=>(match cl.args.toList with
   | [x,y]=>minS E o x y
   | _=>anyS E o)
 | .invoke r name=>callIS E r name cl.args.toList
 | _=>anyS E o
theorem callS_ok (E:Env) {o:Oper} {cl:Call} (ho:o.op = .call cl):XoOk E o (callS E o cl):=by
 unfold callS
 split
 .rename_i f hf
  exact callVS_ok E ho hf
 .rename_i hf
  split
  .rename_i x t h1 h2
   exact lenS_ok E ho hf h1 h2
  .exact anyS_ok E o
 .rename_i hf
  split
  .rename_i x y h1
   exact minS_ok E ho hf h1
  .exact anyS_ok E o
 .rename_i r name hf
  exact callIS_ok E ho hf
 .exact anyS_ok E o
def opS (E:Env) (o:Oper):Xo:=match o.op with
 | .move x=>moveS x
 | .assign x=>moveS x
 | .pick c a b=>pickS c a b
 | .alloc t=>allocS E t
 | .box _ x=>boxS x
 | .build t parts=>buildS E o t parts.toList
 | .buildSlice t len parts=>bslS E t len parts.toList
 | .load t a=>loadS E t a
 | .store t a x=>storeS E t a x
 | .nilCheck x=>nilS x
 | .binOp op _ x y _=>binS E o op x y
 | .unOp op _ x=>unS E o op x
 | .fieldAddr s x f=>fieldS E s x f
 | .indexAddr t x ix=>idxS E t x ix
 | .call c=>callS E o c
 | _=>anyS E o
theorem opS_ok (E:Env) (o:Oper):XoOk E o (opS E o):=by
 unfold opS
 split<;>rename_i ho
 .exact moveS_ok E (.inl ho)
 .exact moveS_ok E (.inr ho)
 .exact pickS_ok E ho
 .exact allocS_ok E ho
 .exact boxS_ok E ho
 .exact buildS_ok E ho
 .exact bslS_ok E ho
 .exact loadS_ok E ho
 .exact storeS_ok E ho
 .exact nilS_ok E ho
 .exact binS_ok E ho
 .exact unS_ok E ho
 .exact fieldS_ok E ho
 .exact idxS_ok E ho
 .exact callS_ok E ho
 .exact anyS_ok E o
structure Ds where
 f0:FT->Value->(FT->Prop)->Prop
def Ds.fn (X:Ds) (x0:FT) (x1:Value) (x2:(FT->Prop)):Prop:=Ds.rec (motive:=fun _=>Prop) (fun f=>f x0 x1 x2) X
theorem Ds.fn_mk (f:FT->Value->(FT->Prop)->Prop) (x0:FT) (x1:Value) (x2:(FT->Prop)):(Ds.mk f).fn x0 x1 x2=f x0 x1 x2:=rfl
def dstS:Option Tmp->Ds
 | none=>⟨fun T _ k=>k T⟩
 | some d=>match setS d with
   | ⟨p⟩=>⟨fun T v k=>p T (some v) k⟩
theorem dstS_ok {T:FT} {M:Tm} (h:Sim T M) (d:Option Tmp) (v:Value):∃ r:Option FT,(∀ k,(dstS d).fn T v k=kO r k)/\∀ T',r=some T'->Sim T' (tputD M d v):=by
 cases d with
 | none=>exact ⟨some T,fun k=>rfl,fun T' e=>by cases e; exact h⟩
 | some d =>
   refine ⟨bif Nat.blt d 512 then some (setF T (some v) d) else none,fun k=>setS_eq d T (some v) k,fun T' e=>?_⟩
   cases hb:Nat.blt d 512<;>simp only [hb,cond_true,cond_false,reduceCtorEq,Option.some.injEq] at e
   subst e
   exact h.put (blt_lt hb) _
structure Wt where
 f0:FT->Prop->Prop->Prop
def Wt.fn (X:Wt) (x0:FT) (x1:Prop) (x2:Prop):Prop:=Wt.rec (motive:=fun _=>Prop) (fun f=>f x0 x1 x2) X
theorem Wt.fn_mk (f:FT->Prop->Prop->Prop) (x0:FT) (x1:Prop) (x2:Prop):(Wt.mk f).fn x0 x1 x2=f x0 x1 x2:=rfl
def isWant (v:Value) (n:Prop) (k:Bool->Prop):Prop :=
 Value.rec (motive_1:=fun _=>Prop) (motive_2:=fun _=>Prop) (motive_3:=fun _=>Prop) k (fun _ _=>False) (fun _ _=>False) (fun _ _ _=>False) (fun _=>False) (fun _=>False) (fun _ _ _=>False) (fun _=>False) (fun _=>False) (fun _ _ _ _ _=>False) False (fun _ _ _=>False) False (fun _ _=>False) (fun _ _=>n) (fun _ _=>True) True (fun _ _ _ _=>True) v
def wantS (ops:Array Oper) (o:Oper):Wt:=match o.guard with
 | none=>⟨fun _ y _=>y⟩
 | some (j,want)=>match (ops[j]?).bind (·.dst) with
   | some d=>⟨fun T y n=>kO ((getS d).fn T) fun v=>isWant v n fun b=>Bool.rec (motive:=fun _=>Prop) n y (b == want)⟩
   | none=>⟨fun _ _ _=>False⟩
def kW (o:Option Bool) (y n:Prop):Prop:=match o with
 | some true=>y
 | some false=>n
 | none=>False
theorem wantS_eq {T:FT} {M:Tm} (h:Sim T M) (ops:Array Oper) (o:Oper) (y n:Prop):(wantS ops o).fn T y n=kW (wantA ops o M) y n:=by
 unfold wantS wantA
 cases o.guard with
 | none=>rfl
 | some jw =>
   obtain ⟨j,want⟩:=jw
   simp only
   cases (ops[j]?).bind (·.dst) with
   | none=>rfl
   | some d =>
     show (kO ((getS d).fn T) fun v=>isWant v n fun b=>Bool.rec (motive:=fun _=>Prop) n y (b == want))=_
     rw [getS_eq,h d]
     simp only
     cases tget M d with
     | none=>rfl
     | some v =>
       cases v<;>try rfl
       rename_i b
       show Bool.rec (motive:=fun _=>Prop) n y (b == want)=kW (some (b == want)) y n
       cases b == want<;>rfl
structure Rg where
 f0:CallC->FT->Hp->(FT->Hp->Prop)->Prop
def Rg.fn (X:Rg) (x0:CallC) (x1:FT) (x2:Hp) (x3:(FT->Hp->Prop)):Prop:=Rg.rec (motive:=fun _=>Prop) (fun f=>f x0 x1 x2 x3) X
theorem Rg.fn_mk (f:CallC->FT->Hp->(FT->Hp->Prop)->Prop) (x0:CallC) (x1:FT) (x2:Hp) (x3:(FT->Hp->Prop)):(Rg.mk f).fn x0 x1 x2 x3=f x0 x1 x2 x3:=rfl
def opsS (E:Env) (ops:Array Oper):List Oper->Rg
 | []=>⟨fun _ T h k=>k T h⟩
 | o :: l=>match o.guard with
   | none=>(match opS E o,dstS o.dst with
     | ⟨p⟩,⟨q⟩=>⟨fun c T h k=>p c h.nxt T h fun v h'=>q T v fun T'=>(opsS E ops l).fn c T' h' k⟩)
   | some _=>⟨fun c T h k=>(wantS ops o).fn T ((opS E o).fn c h.nxt T h fun v h'=>(dstS o.dst).fn T v fun T'=>(opsS E ops l).fn c T' h' k) ((dstS o.dst).fn T undefV fun T'=>(opsS E ops l).fn c T' h k)⟩
theorem step_ok {E:Env} {o:Oper} {c:CallC} {call:Nat->List Value->Hp->Option (Value × Hp)} (hc:TwinC c call) {nm:Nat} {T:FT} {M:Tm} {h h0:Hp} (hs:Sim T M) {α:Type} {R:α->Prop} {back:Hp->Hp} {next:FT->Hp->(α->Prop)->Prop} {good:Tm->Hp->α->Prop}
 (ih:∀ T' M' h',Sim T' M'->∃ r:Option α,(∀ k,next T' h' k=kO r k)/\∀ p,r=some p->good M' h' p) :
 ∃ r:Option α,(∀ k,((opS E o).fn c nm T h fun v h'=>(dstS o.dst).fn T v fun T'=>next T' (back h') k)=kO r k)/\∀ p,r=some p->∃ v h',xop E call nm o M h=some (v,h')/\good (tputD M o.dst v) (back h') p:=by
 obtain ⟨r,h1,h2⟩:=opS_ok E o c call hc nm T M h hs
 cases r with
 | none=>exact ⟨none,fun k=>h1 _,fun p e=>by cases e⟩
 | some vh =>
   obtain ⟨v,h'⟩:=vh
   obtain ⟨rd,g1,g2⟩:=dstS_ok hs o.dst v
   cases rd with
   | none=>exact ⟨none,fun k=>(h1 _).trans (g1 _),fun p e=>by cases e⟩
   | some T' =>
     obtain ⟨rn,k1,k2⟩:=ih T' (tputD M o.dst v) (back h') (g2 T' rfl)
     exact ⟨rn,fun k=>(h1 _).trans ((g1 _).trans (k1 k)),fun p e=>⟨v,h',h2 _ rfl,k2 p e⟩⟩
theorem skip_ok {o:Oper} {T:FT} {M:Tm} {h:Hp} (hs:Sim T M) {α:Type} {next:FT->Hp->(α->Prop)->Prop} {good:Tm->Hp->α->Prop}
 (ih:∀ T' M' h',Sim T' M'->∃ r:Option α,(∀ k,next T' h' k=kO r k)/\∀ p,r=some p->good M' h' p) :
 ∃ r:Option α,(∀ k,((dstS o.dst).fn T undefV fun T'=>next T' h k)=kO r k)/\∀ p,r=some p->good (tputD M o.dst undefV) h p:=by
 obtain ⟨rd,g1,g2⟩:=dstS_ok hs o.dst undefV
 cases rd with
 | none=>exact ⟨none,fun k=>g1 _,fun p e=>by cases e⟩
 | some T' =>
   obtain ⟨rn,k1,k2⟩:=ih T' (tputD M o.dst undefV) h (g2 T' rfl)
   exact ⟨rn,fun k=>(g1 _).trans (k1 k),k2⟩
theorem want_ok {ops:Array Oper} {o:Oper} {T:FT} {M:Tm} (hs:Sim T M) {α:Type} {A B:(α->Prop)->Prop} {g1 g2:α->Prop}
 (hA:∃ r:Option α,(∀ k,A k=kO r k)/\∀ p,r=some p->g1 p) (hB:∃ r:Option α,(∀ k,B k=kO r k)/\∀ p,r=some p->g2 p) :
 ∃ r:Option α,(∀ k,(wantS ops o).fn T (A k) (B k)=kO r k)/\∀ p,r=some p->(wantA ops o M=some true/\g1 p)\/(wantA ops o M=some false/\g2 p):=by
 obtain ⟨ra,a1,a2⟩:=hA
 obtain ⟨rb,b1,b2⟩:=hB
 cases hw:wantA ops o M with
 | none=>exact ⟨none,fun k=>by rw [wantS_eq hs,hw]; rfl,fun p e=>by cases e⟩
 | some b =>
   cases b with
   | false=>exact ⟨rb,fun k=>by rw [wantS_eq hs,hw]; exact b1 k,fun p e=>.inr ⟨rfl,b2 p e⟩⟩
   | true=>exact ⟨ra,fun k=>by rw [wantS_eq hs,hw]; exact a1 k,fun p e=>.inl ⟨rfl,a2 p e⟩⟩
def kP {α β:Type} (k:α->β->Prop) (p:α × β):Prop:=k p.1 p.2
theorem opsS_ok (E:Env) (ops:Array Oper) {c:CallC} {call:Nat->List Value->Hp->Option (Value × Hp)} (hc:TwinC c call):∀ (l:List Oper) (T:FT) (M:Tm) (h:Hp),Sim T M->
 ∃ r:Option (FT × Hp),(∀ k:FT × Hp->Prop,(opsS E ops l).fn c T h (fun T h=>k (T,h))=kO r k)/\∀ p,r=some p->∃ M',xops E call ops l M h=some (M',p.2)/\Sim p.1 M'
 | [],T,M,h,hs=>⟨some (T,h),fun k=>rfl,fun p e=>by cases e; exact ⟨M,rfl,hs⟩⟩
 | o :: l,T,M,h,hs=>by
   have ih:=fun T' M' h' hs'=>opsS_ok E ops hc l T' M' h' hs'
   have hA:=step_ok (E:=E) (o:=o) hc (nm:=h.nxt) (h:=h) (h0:=h) hs (R:=fun _=>True) (back:=fun h=>h) (next:=fun T' h' k=>(opsS E ops l).fn c T' h' fun T h=>k (T,h)) (good:=fun M' h' p=>∃ M'',xops E call ops l M' h'=some (M'',p.2)/\Sim p.1 M'') ih
   cases hg:o.guard with
   | none =>
     obtain ⟨r,h1,h2⟩:=hA
     refine ⟨r,fun k=>?_,fun p e=>?_⟩
     .simp only [Xo.fn_mk,Ds.fn_mk,Wt.fn_mk,Rg.fn_mk,opsS,hg]
      exact h1 k
     .obtain ⟨v,h',q1,M'',q2,q3⟩:=h2 p e
      refine ⟨M'',?_,q3⟩
      simp only [xops,wantA,hg,q1]
      exact q2
   | some jw =>
     have hB:=skip_ok (o:=o) hs (h:=h) (next:=fun T' h' k=>(opsS E ops l).fn c T' h' fun T h=>k (T,h)) (good:=fun M' h' p=>∃ M'',xops E call ops l M' h'=some (M'',p.2)/\Sim p.1 M'') ih
     obtain ⟨r,h1,h2⟩:=want_ok (ops:=ops) (o:=o) hs hA hB
     refine ⟨r,fun k=>?_,fun p e=>?_⟩
     .simp only [Xo.fn_mk,Ds.fn_mk,Wt.fn_mk,Rg.fn_mk,opsS,hg]
      exact h1 k
     .rcases h2 p e with ⟨w1,v,h',q1,M'',q2,q3⟩ | ⟨w1,M'',q2,q3⟩
      .refine ⟨M'',?_,q3⟩
       simp only [xops,w1,q1]
       exact q2
      .refine ⟨M'',?_,q3⟩
       simp only [xops,w1]
       exact q2
def noC:CallC:=fun _ _ _ _=>False
theorem noC_ok:TwinC noC (fun _ _ _=>none):=fun _ _ _ _=>rfl
structure Pg where
 f0:Nat->FT->Hp->(FT->Hp->Prop)->Prop
def Pg.fn (X:Pg) (x0:Nat) (x1:FT) (x2:Hp) (x3:(FT->Hp->Prop)):Prop:=Pg.rec (motive:=fun _=>Prop) (fun f=>f x0 x1 x2 x3) X
theorem Pg.fn_mk (f:Nat->FT->Hp->(FT->Hp->Prop)->Prop) (x0:Nat) (x1:FT) (x2:Hp) (x3:(FT->Hp->Prop)):(Pg.mk f).fn x0 x1 x2 x3=f x0 x1 x2 x3:=rfl
def preS (E:Env) (ops:Array Oper):List Nat->Pg
 | []=>⟨fun _ T h k=>k T h⟩
 | i :: l=>match ops[i]? with
   | none=>⟨fun _ _ _ _=>False⟩
   | some o=>⟨fun base T h k=>getC h.m (base+i) fun e=>Option.rec (motive:=fun _=>Prop)
      ((wantS ops o).fn T ((opS E o).fn noC (base+i) T h fun v h'=>(dstS o.dst).fn T v fun T'=>(preS E ops l).fn base T' h' k) ((dstS o.dst).fn T undefV fun T'=>(preS E ops l).fn base T' h k)) (fun _=>False) e⟩
theorem preS_ok (E:Env) (ops:Array Oper) (base:Nat):∀ (l:List Nat) (T:FT) (M:Tm) (h:Hp),Sim T M->
 ∃ r:Option (FT × Hp),(∀ k:FT × Hp->Prop,(preS E ops l).fn base T h (fun T h=>k (T,h))=kO r k)/\∀ p,r=some p->∃ M',xpre E ops base l M h=some (M',p.2)/\Sim p.1 M'
 | [],T,M,h,hs=>⟨some (T,h),fun k=>rfl,fun p e=>by cases e; exact ⟨M,rfl,hs⟩⟩
 | i :: l,T,M,h,hs=>by
   have ih:=fun T' M' h' hs'=>preS_ok E ops base l T' M' h' hs'
   cases ho:ops[i]? with
   | none=>exact ⟨none,fun k=>by simp only [Xo.fn_mk,Ds.fn_mk,Wt.fn_mk,Rg.fn_mk,Pg.fn_mk,preS,ho]; rfl,fun p e=>by cases e⟩
   | some o =>
     cases hm:tget h.m (base+i) with
     | some e=>exact ⟨none,fun k=>by simp only [Xo.fn_mk,Ds.fn_mk,Wt.fn_mk,Rg.fn_mk,Pg.fn_mk,preS,ho,getC_eq,hm]; rfl,fun p e=>by cases e⟩
     | none =>
       have hA:=step_ok (E:=E) (o:=o) noC_ok (nm:=base+i) (h:=h) (h0:=h) hs (R:=fun _=>True) (back:=fun h=>h) (next:=fun T' h' k=>(preS E ops l).fn base T' h' fun T h=>k (T,h)) (good:=fun M' h' p=>∃ M'',xpre E ops base l M' h'=some (M'',p.2)/\Sim p.1 M'') ih
       have hB:=skip_ok (o:=o) hs (h:=h) (next:=fun T' h' k=>(preS E ops l).fn base T' h' fun T h=>k (T,h)) (good:=fun M' h' p=>∃ M'',xpre E ops base l M' h'=some (M'',p.2)/\Sim p.1 M'') ih
       obtain ⟨r,h1,h2⟩:=want_ok (ops:=ops) (o:=o) hs hA hB
       refine ⟨r,fun k=>?_,fun p e=>?_⟩
       .simp only [Xo.fn_mk,Ds.fn_mk,Wt.fn_mk,Rg.fn_mk,Pg.fn_mk,preS,ho,getC_eq,hm]
        exact h1 k
       .rcases h2 p e with ⟨w1,v,h',q1,M'',q2,q3⟩ | ⟨w1,M'',q2,q3⟩
        .refine ⟨M'',?_,q3⟩
         simp only [xpre,ho,hm,w1,q1]
         exact q2
        .refine ⟨M'',?_,q3⟩
         simp only [xpre,ho,hm,w1]
         exact q2
structure Rc where
 f0:Nat->FT->Hp->Prop->Prop
def Rc.fn (X:Rc) (x0:Nat) (x1:FT) (x2:Hp) (x3:Prop):Prop:=Rc.rec (motive:=fun _=>Prop) (fun f=>f x0 x1 x2 x3) X
theorem Rc.fn_mk (f:Nat->FT->Hp->Prop->Prop) (x0:Nat) (x1:FT) (x2:Hp) (x3:Prop):(Rc.mk f).fn x0 x1 x2 x3=f x0 x1 x2 x3:=rfl
def isT0 (v:Value) (k:Prop):Prop :=
 Value.rec (motive_1:=fun _=>Prop) (motive_2:=fun _=>Prop) (motive_3:=fun _=>Prop) (fun _=>False) (fun _ _=>False) (fun _ _=>False) (fun _ _ _=>False) (fun _=>False) (fun _=>False) (fun _ _ _=>False) (fun _=>False) (fun _=>False) (fun _ _ _ _ _=>False) False (fun _ _ _=>False) False (fun _ _=>False) (fun a _=>iff1 (Nat.beq a.size 0) k) (fun _ _=>True) True (fun _ _ _ _=>True) v
def reS (E:Env) (ops:Array Oper):List Nat->Rc
 | []=>⟨fun _ _ _ k=>k⟩
 | i :: l=>match ops[i]? with
   | none=>⟨fun _ _ _ _=>False⟩
   | some o=>match o.dst with
     | some d=>⟨fun base T h k=>(wantS ops o).fn T ((opS E o).fn noC (base+i) T h fun v _=>kO ((getS d).fn T) fun u=>iff1 (eqV u v) ((reS E ops l).fn base T h k)) (kO ((getS d).fn T) fun u=>isT0 u ((reS E ops l).fn base T h k))⟩
     | none=>⟨fun base T h k=>(wantS ops o).fn T ((opS E o).fn noC (base+i) T h fun _ _=>(reS E ops l).fn base T h k) ((reS E ops l).fn base T h k)⟩
theorem reS_ok (E:Env) (ops:Array Oper) (base:Nat) {T:FT} {M:Tm} {h:Hp} (hs:Sim T M):∀ l:List Nat,
 ∃ b:Bool,(∀ k,(reS E ops l).fn base T h k=iff1 b k)/\(b=true->xre E ops base M h l=true)
 | []=>⟨true,fun k=>rfl,fun _=>rfl⟩
 | i :: l=>by
   obtain ⟨b,b1,b2⟩:=reS_ok E ops base (h:=h) hs l
   cases ho:ops[i]? with
   | none=>exact ⟨false,fun k=>by simp only [Xo.fn_mk,Ds.fn_mk,Wt.fn_mk,Rg.fn_mk,Pg.fn_mk,Rc.fn_mk,reS,ho]; rfl,fun e=>by cases e⟩
   | some o =>
     obtain ⟨r,h1,h2⟩:=opS_ok E o noC _ noC_ok (base+i) T M h hs
     cases hd:o.dst with
     | none =>
       have hsh:∀ k,(reS E ops (i :: l)).fn base T h k=kW (wantA ops o M) (k2 r fun _ _=>iff1 b k) (iff1 b k):=by
        intro k
        simp only [Xo.fn_mk,Ds.fn_mk,Wt.fn_mk,Rg.fn_mk,Pg.fn_mk,Rc.fn_mk,reS,ho,hd]
        rw [wantS_eq hs,h1,b1]
       cases hw:wantA ops o M with
       | none=>exact ⟨false,fun k=>by rw [hsh,hw]; rfl,fun e=>by cases e⟩
       | some q =>
         cases q with
         | false=>exact ⟨b,fun k=>by rw [hsh,hw]; rfl,fun e=>by simp only [xre,ho,hw,hd]; exact b2 e⟩
         | true =>
           cases r with
           | none=>exact ⟨false,fun k=>by rw [hsh,hw]; rfl,fun e=>by cases e⟩
           | some p=>exact ⟨b,fun k=>by rw [hsh,hw]; rfl,fun e=>by simp only [xre,ho,hw,hd,h2 p rfl]; exact b2 e⟩
     | some d =>
       have hsh:∀ k,(reS E ops (i :: l)).fn base T h k=kW (wantA ops o M) (k2 r fun v _=>kO (tget M d) fun u=>iff1 (eqV u v) (iff1 b k)) (kO (tget M d) fun u=>isT0 u (iff1 b k)):=by
        intro k
        simp only [Xo.fn_mk,Ds.fn_mk,Wt.fn_mk,Rg.fn_mk,Pg.fn_mk,Rc.fn_mk,reS,ho,hd]
        rw [wantS_eq hs,h1,b1,getS_eq,hs d]
       cases hw:wantA ops o M with
       | none=>exact ⟨false,fun k=>by rw [hsh,hw]; rfl,fun e=>by cases e⟩
       | some q =>
         cases hu:tget M d with
         | none =>
           refine ⟨false,fun k=>?_,fun e=>by cases e⟩
           rw [hsh,hw,hu]
           cases q
           .rfl
           .cases r<;>rfl
         | some u =>
           cases q with
           | false =>
             by_cases hv:∃ a,u = .tuple a
             .obtain ⟨a,rfl⟩:=hv
              refine ⟨Nat.beq a.size 0&&b,fun k=>?_,fun e=>?_⟩
              .rw [hsh,hw,hu]
               show iff1 (Nat.beq a.size 0) (iff1 b k)=_
               cases Nat.beq a.size 0<;>rfl
              .simp only [Bool.and_eq_true] at e
               simp only [xre,ho,hw,hd,hu,e.1,Bool.true_and]
               exact b2 e.2
             .refine ⟨false,fun k=>?_,fun e=>by cases e⟩
              rw [hsh,hw,hu]
              show isT0 u (iff1 b k)=False
              cases u<;>try rfl
              rename_i a
              exact absurd ⟨a,rfl⟩ hv
           | true =>
             cases r with
             | none=>exact ⟨false,fun k=>by rw [hsh,hw]; rfl,fun e=>by cases e⟩
             | some p =>
               refine ⟨eqV u p.1&&b,fun k=>?_,fun e=>?_⟩
               .rw [hsh,hw,hu]
                show iff1 (eqV u p.1) (iff1 b k)=_
                cases eqV u p.1<;>rfl
               .simp only [Bool.and_eq_true] at e
                have hp:=h2 p rfl
                simp only [xre,ho,hw,hd,hp,hu,e.1,Bool.true_and]
                exact b2 e.2
structure Sg where
 f0:CallC->Nat->FT->Hp->(FT->Hp->Prop)->Prop
def Sg.fn (X:Sg) (x0:CallC) (x1:Nat) (x2:FT) (x3:Hp) (x4:(FT->Hp->Prop)):Prop:=Sg.rec (motive:=fun _=>Prop) (fun f=>f x0 x1 x2 x3 x4) X
theorem Sg.fn_mk (f:CallC->Nat->FT->Hp->(FT->Hp->Prop)->Prop) (x0:CallC) (x1:Nat) (x2:FT) (x3:Hp) (x4:(FT->Hp->Prop)):(Sg.mk f).fn x0 x1 x2 x3 x4=f x0 x1 x2 x3 x4:=rfl
def stagesS (E:Env) (ops:Array Oper):List Stage->Sg
 | []=>⟨fun _ _ T h k=>k T h⟩
 | s :: l=>match s.loud with
   | none=>(match l with
     | []=>⟨fun _ base T h k=>(reS E ops s.re).fn base T h ((preS E ops s.pre).fn base T h k)⟩
     | _ :: _=>⟨fun _ _ _ _ _=>False⟩)
   | some i=>match ops[i]? with
     | none=>⟨fun _ _ _ _ _=>False⟩
     | some o=>⟨fun c base T h k=>(reS E ops s.re).fn base T h ((preS E ops s.pre).fn base T h fun T1 h1 =>
        (wantS ops o).fn T1 ((opS E o).fn c h1.nxt T1 ⟨hideAll base h1.m s.hide,h1.nxt⟩ fun v h2=>(dstS o.dst).fn T1 v fun T2=>(stagesS E ops l).fn c base T2 ⟨backAll base h1.m h2.m s.hide,h2.nxt⟩ k)
          ((dstS o.dst).fn T1 undefV fun T2=>(stagesS E ops l).fn c base T2 h1 k))⟩
theorem stagesS_ok (E:Env) (ops:Array Oper) {c:CallC} {call:Nat->List Value->Hp->Option (Value × Hp)} (hc:TwinC c call) (base:Nat):∀ (l:List Stage) (T:FT) (M:Tm) (h:Hp),Sim T M->
 ∃ r:Option (FT × Hp),(∀ k:FT × Hp->Prop,(stagesS E ops l).fn c base T h (fun T h=>k (T,h))=kO r k)/\∀ p,r=some p->∃ M',xstages E call ops base l M h=some (M',p.2)/\Sim p.1 M'
 | [],T,M,h,hs=>⟨some (T,h),fun k=>rfl,fun p e=>by cases e; exact ⟨M,rfl,hs⟩⟩
 | s :: l,T,M,h,hs=>by
   have ih:=fun T' M' h' hs'=>stagesS_ok E ops hc base l T' M' h' hs'
   obtain ⟨b,b1,b2⟩:=reS_ok E ops base (h:=h) hs s.re
   obtain ⟨rp,p1,p2⟩:=preS_ok E ops base s.pre T M h hs
   cases hl:s.loud with
   | none =>
     match l,ih with
     | _ :: _,_=>exact ⟨none,fun k=>by simp only [Xo.fn_mk,Ds.fn_mk,Wt.fn_mk,Rg.fn_mk,Pg.fn_mk,Rc.fn_mk,Sg.fn_mk,stagesS,hl]; rfl,fun p e=>by cases e⟩
     | [],_ =>
       cases b with
       | false=>exact ⟨none,fun k=>by simp only [Xo.fn_mk,Ds.fn_mk,Wt.fn_mk,Rg.fn_mk,Pg.fn_mk,Rc.fn_mk,Sg.fn_mk,stagesS,hl]; rw [b1]; rfl,fun p e=>by cases e⟩
       | true =>
         refine ⟨rp,fun k=>?_,fun p e=>?_⟩
         .simp only [Xo.fn_mk,Ds.fn_mk,Wt.fn_mk,Rg.fn_mk,Pg.fn_mk,Rc.fn_mk,Sg.fn_mk,stagesS,hl]
          rw [b1,p1]
          rfl
         .obtain ⟨M',q1,q2⟩:=p2 p e
          refine ⟨M',?_,q2⟩
          simp only [xstages,b2 rfl,cond_true,q1,hl]
   | some i =>
     cases ho:ops[i]? with
     | none=>exact ⟨none,fun k=>by simp only [Xo.fn_mk,Ds.fn_mk,Wt.fn_mk,Rg.fn_mk,Pg.fn_mk,Rc.fn_mk,Sg.fn_mk,stagesS,hl,ho]; rfl,fun p e=>by cases e⟩
     | some o =>
       cases b with
       | false=>exact ⟨none,fun k=>by simp only [Xo.fn_mk,Ds.fn_mk,Wt.fn_mk,Rg.fn_mk,Pg.fn_mk,Rc.fn_mk,Sg.fn_mk,stagesS,hl,ho]; rw [b1]; rfl,fun p e=>by cases e⟩
       | true =>
         cases rp with
         | none =>
           refine ⟨none,fun k=>?_,fun p e=>by cases e⟩
           simp only [Xo.fn_mk,Ds.fn_mk,Wt.fn_mk,Rg.fn_mk,Pg.fn_mk,Rc.fn_mk,Sg.fn_mk,stagesS,hl,ho]
           rw [b1]
           exact p1 fun q=>(wantS ops o).fn q.1 ((opS E o).fn c q.2.nxt q.1 ⟨hideAll base q.2.m s.hide,q.2.nxt⟩ fun v h2=>(dstS o.dst).fn q.1 v fun T2=>(stagesS E ops l).fn c base T2 ⟨backAll base q.2.m h2.m s.hide,h2.nxt⟩ fun T h=>k (T,h)) ((dstS o.dst).fn q.1 undefV fun T2=>(stagesS E ops l).fn c base T2 q.2 fun T h=>k (T,h))
         | some q =>
           obtain ⟨T1,h1⟩:=q
           obtain ⟨M1,m1,m2⟩:=p2 _ rfl
           have hA:=step_ok (E:=E) (o:=o) hc (nm:=h1.nxt) (h:=⟨hideAll base h1.m s.hide,h1.nxt⟩) (h0:=h1) m2 (R:=fun _=>True) (back:=fun h2=>⟨backAll base h1.m h2.m s.hide,h2.nxt⟩) (next:=fun T' h' k=>(stagesS E ops l).fn c base T' h' fun T h=>k (T,h)) (good:=fun M' h' p=>∃ M'',xstages E call ops base l M' h'=some (M'',p.2)/\Sim p.1 M'') ih
           have hB:=skip_ok (o:=o) m2 (h:=h1) (next:=fun T' h' k=>(stagesS E ops l).fn c base T' h' fun T h=>k (T,h)) (good:=fun M' h' p=>∃ M'',xstages E call ops base l M' h'=some (M'',p.2)/\Sim p.1 M'') ih
           obtain ⟨r,g1,g2⟩:=want_ok (ops:=ops) (o:=o) m2 hA hB
           refine ⟨r,fun k=>?_,fun p e=>?_⟩
           .simp only [Xo.fn_mk,Ds.fn_mk,Wt.fn_mk,Rg.fn_mk,Pg.fn_mk,Rc.fn_mk,Sg.fn_mk,stagesS,hl,ho]
            rw [b1]
            exact (p1 fun q=>(wantS ops o).fn q.1 ((opS E o).fn c q.2.nxt q.1 ⟨hideAll base q.2.m s.hide,q.2.nxt⟩ fun v h2=>(dstS o.dst).fn q.1 v fun T2=>(stagesS E ops l).fn c base T2 ⟨backAll base q.2.m h2.m s.hide,h2.nxt⟩ fun T h=>k (T,h)) ((dstS o.dst).fn q.1 undefV fun T2=>(stagesS E ops l).fn c base T2 q.2 fun T h=>k (T,h))).trans (g1 k)
           .simp only at m1
            rcases g2 p e with ⟨w1,v,h',q1,M'',q2,q3⟩ | ⟨w1,M'',q2,q3⟩
            .refine ⟨M'',?_,q3⟩
             simp only [xstages,b2 rfl,cond_true,m1,hl,ho,w1,q1]
             exact q2
            .refine ⟨M'',?_,q3⟩
             simp only [xstages,b2 rfl,cond_true,m1,hl,ho,w1]
             exact q2
end Go.Ev
