import Derived.Test.YtlgpleiobieniaaEwRx4
import Derived.Test.YtlgpleiobieniaaEwRx1
set_option linter.unusedVariables false
set_option linter.unusedSimpArgs false
namespace Go.Ew
open Go.Ev Go.Deep
def pre (P:List It) (σ:RdS):RdS:={ σ with items:=P++σ.items }
theorem pre_put (P:List It) (σ:RdS) (op:Int):putR (pre P σ) op=pre P (putR σ op):=by simp [putR,pre]
theorem pre_join (P:List It) (σ:RdS):joinR (pre P σ)=pre P (joinR σ):=by
 unfold joinR
 show (if σ.atoms=2 then _ else _)=_
 by_cases h:σ.atoms=2
 ·rw [if_pos h,if_pos h]; simp [putR,pre]
 ·rw [if_neg h,if_neg h]
theorem pre_add (P:List It) (σ:RdS) (l:List Rg):addClassR (pre P σ) l=pre P (addClassR σ l):=by
 unfold addClassR
 rw [pre_join]
 simp [pre]
theorem pre_end (P:List It) (σ:RdS):endR (pre P σ)=(endR σ).map (pre P):=by
 unfold endR
 rw [pre_join]
 show (if σ.atoms=0 then _ else _)=_
 by_cases h:σ.atoms=0
 ·rw [if_pos h,if_pos h]; rfl
 ·rw [if_neg h,if_neg h]
  show some { (if (joinR σ).parted=true then putR (pre P (joinR σ)) 3 else pre P (joinR σ)) with parted:=true,atoms:=0 }=_
  by_cases hp:(joinR σ).parted=true
  ·simp only [if_pos hp,pre_put]; rfl
  ·simp only [if_neg hp]; rfl
theorem pre_rep (P:List It) (σ:RdS) (op:Int):repeatR (pre P σ) op=(repeatR σ op).map (pre P):=by
 unfold repeatR
 show (if σ.atoms=0 then _ else _)=_
 by_cases h:σ.atoms=0
 ·rw [if_pos h,if_pos h]; rfl
 ·rw [if_neg h,if_neg h,pre_put]; rfl
theorem pre_open (P:List It) (σ:RdS):openR (pre P σ)=(openR σ).map (pre P):=by
 unfold openR
 rw [pre_join]
 show (if σ.outer.length<12 then _ else _)=_
 by_cases h:σ.outer.length<12
 ·rw [if_pos h,if_pos h]; rfl
 ·rw [if_neg h,if_neg h]; rfl
theorem pre_close (P:List It) (σ:RdS):closeR (pre P σ)=(closeR σ).map (pre P):=by
 unfold closeR
 rw [pre_end]
 show (match σ.outer.getLast? with | none=>none | some g=>_)=_
 cases σ.outer.getLast? with
 | none=>rfl
 | some g =>
   cases endR σ with
   | none=>rfl
   | some τ=>rfl
theorem pre_openC (P:List It) (σ:RdS):openC (pre P σ)=(openC σ).map (pre P):=by
 unfold openC
 show (if σ.outer.length<12 then _ else _)=_
 by_cases h:σ.outer.length<12
 ·rw [if_pos h,if_pos h]; rfl
 ·rw [if_neg h,if_neg h]; rfl
theorem pre_take (P:List It) (σ:RdS) (c:Int) (e:Bool):takeR (pre P σ) c e=(takeR σ c e).map (pre P):=by
 obtain ⟨items,outer,b,a,cls⟩:=σ
 cases cls with
 | some x =>
   obtain ⟨l,pl⟩:=x
   show inClassR _ l pl c e=(inClassR _ l pl c e).map _
   unfold inClassR
   split
   ·cases addC l pl c<;>rfl
   ·split
    ·split<;>rfl
    ·split
     ·split
      ·rw [pre_add]; rfl
      ·rfl
     ·rfl
 | none =>
   show (if standsB c e marksB=true then _ else _)=Option.map _ (if standsB c e marksB=true then _ else _)
   split
   ·rw [pre_add]; rfl
   ·unfold markR
    split
    ·exact pre_open P _
    split
    ·exact pre_close P _
    split
    ·exact pre_openC P _
    split
    ·rw [pre_add]; rfl
    split
    ·exact pre_end P _
    split
    ·exact pre_rep P _ _
    split
    ·exact pre_rep P _ _
    split
    ·exact pre_rep P _ _
    ·rfl
theorem pre_fold (P:List It):∀ (l:List (Int × Bool)) (σ:RdS),foldT (pre P σ) l=(foldT σ l).map (pre P)
 | [],σ=>rfl
 | (c,e) :: l,σ=>by
  simp only [foldT,pre_take]
  cases takeR σ c e with
  | none=>rfl
  | some τ=>exact pre_fold P l τ
def Go1 (ls:List (Int × Bool)) (b:Bool) (a:Int):Prop:=∃ I b' a',(a'=1∨a'=2)∧foldT ⟨[],[],b,a,none⟩ ls=some ⟨I,[],b',a',none⟩∧∀ g,foldT ⟨[],[g],b,a,none⟩ ls=some ⟨I,[g],b',a',none⟩
def AdvE (l:List Int):Prop:=∃ ls,(∀ r,letL (l++r) false=ls++letL r false)∧∀ b a,(a=0∨a=1∨a=2)→Go1 ls b a
def SufE (l:List Int):Prop:=∃ ls,(∀ r,letL (l++r) false=ls++letL r false)∧∀ b a,(a=1∨a=2)→Go1 ls b a
theorem go_app {ls ms:List (Int × Bool)} {b:Bool} {a:Int} (h:Go1 ls b a) (k:∀ b a,(a=1∨a=2)→Go1 ms b a):Go1 (ls++ms) b a:=by
 obtain ⟨I,b1,a1,h1,h2,h3⟩:=h
 obtain ⟨J,b2,a2,k1,k2,k3⟩:=k b1 a1 h1
 refine ⟨I++J,b2,a2,k1,?_,fun g=>?_⟩
 ·rw [foldT_app,h2]
  have:=pre_fold I ms ⟨[],[],b1,a1,none⟩
  rw [k2] at this
  simpa [pre] using this
 ·rw [foldT_app,h3 g]
  have:=pre_fold I ms ⟨[],[g],b1,a1,none⟩
  rw [k3 g] at this
  simpa [pre] using this
theorem AdvE.suf {l m:List Int} (h:AdvE l) (k:SufE m):AdvE (l++m):=by
 obtain ⟨ls,h1,h2⟩:=h
 obtain ⟨ms,k1,k2⟩:=k
 exact ⟨ls++ms,fun r=>by rw [List.append_assoc,h1,k1,List.append_assoc],fun b a ha=>go_app (h2 b a ha) k2⟩
theorem AdvE.toSuf {l:List Int} (h:AdvE l):SufE l:=by
 obtain ⟨ls,h1,h2⟩:=h
 exact ⟨ls,h1,fun b a ha=>h2 b a (.inr ha)⟩
theorem SufE.nil:SufE []:=⟨[],fun r=>rfl,fun b a ha=>⟨[],b,a,ha,rfl,fun g=>rfl⟩⟩
def fins (I:List It) (b:Bool) (a:Int):List It:=(if a=2 then I++[(2,[])] else I)++(if b=true then [(3,[])] else [])
theorem end_is {I:List It} {O:List (Bool × Int)} {b:Bool} {a:Int} (h:a=1∨a=2):endR ⟨I,O,b,a,none⟩=some ⟨fins I b a,O,true,0,none⟩:=by
 rcases h with rfl | rfl<;>cases b<;>simp [endR,joinR,putR,fins]
end Go.Ew
set_option linter.unusedVariables false
set_option linter.unusedSimpArgs false
namespace Go.Ew
open Go.Ev Go.Deep
theorem new_comm {H:KH} {a b:Nat} {x y:Ent} (h:a≠b):(H.new a x).new b y=(H.new b y).new a x:=by
 funext k
 simp only [KH.new]
 by_cases e1:k=a
 ·subst e1; simp [h]
 ·by_cases e2:k=b
  ·subst e2; simp [e1]
  ·simp [e1,e2]
theorem PK.more {K H:KH} {p n:Nat} {e':Ent} (h:PK K p H) (hn:H n=none):PK (K.new n e') p (H.new n e'):=by
 obtain ⟨h1,e,a,m,c,j,rfl,h2,h3,h4,h5,h6⟩:=h
 have hnp:n≠p:=fun x=>by subst x; simp [KH.new] at hn
 have hKn:K n=none:=by simpa [KH.new,hnp] using hn
 refine ⟨by simp only [KH.new]; rw [if_neg (Ne.symm hnp)]; exact h1,e,a,m,c,j,new_comm (Ne.symm hnp),h2,h3,h4,h5,h6.mono (Le.new hKn)⟩
theorem litAt {H:KH} {n j:Nat} {cs:List Value} {v:Value} (h:H n=some (mkEnt cs 0)) (hj:cs[j]? = some v):ld H ⟨n,0+j*1,none⟩ [v]:=by
 refine ⟨rfl,_,h,rd_some rfl fun i w hw=>?_⟩
 match i,hw with
 | 0,hw =>
   have:v=w:=by simpa using hw
   subst this
   simp only [mkEnt,tget_wr_nil]
   simpa using hj
 | i+1,hw=>simp at hw
def Adv2 (l:List Int):Prop:=Adv l∧AdvE l
def Suf2 (l:List Int):Prop:=Suf l∧SufE l
theorem Adv2.suf {l m:List Int} (h:Adv2 l) (k:Suf2 m):Adv2 (l++m):=⟨h.1.suf k.1,h.2.suf k.2⟩
theorem Adv2.toSuf {l:List Int} (h:Adv2 l):Suf2 l:=⟨h.1.toSuf,h.2.toSuf⟩
theorem size_app (a b:ByteArray):(a++b).size=a.size+b.size:=ByteArray.size_append
end Go.Ew
namespace Go.Proofs.Ytlgpleiobieniaa
open Go.Ev Go.Ew
namespace Va
section
variable (ok : EnvOk (env Try.prog))
include ok
end
end Va
end Go.Proofs.Ytlgpleiobieniaa
set_option linter.unusedVariables false
set_option linter.unusedSimpArgs false
namespace Go.Ew
open Go.Ev Go.Deep
theorem koldAt {H:KH} {a:OA} {n:Nat} {cs:List Value} (h:kold H 2 a n=some cs) (hn:0<n):∃ b o,a=some ⟨b,o,none⟩∧∀ j v,cs[j]? = some v→ld H ⟨b,o+j,none⟩ [v]:=by
 have hnb:Nat.beq n 0=false:=by
  cases hq:Nat.beq n 0 with
  | false=>rfl
  | true=>have:=Nat.eq_of_beq_eq_true hq; omega
 cases a with
 | none=>unfold kold at h; rw [hnb] at h; cases h
 | some ad =>
   obtain ⟨b,o,sp⟩:=ad
   cases sp with
   | some x=>simp only [kold] at h; rw [hnb] at h; cases h
   | none =>
     obtain ⟨e,he,hr⟩:=kold_some.1 h
     refine ⟨b,o,rfl,fun j v hv=>⟨rfl,e,he,rd_some rfl fun i w hw=>?_⟩⟩
     match i,hw with
     | 0,hw =>
       have:v=w:=by simpa using hw
       subst this
       exact rd_get hr j v hv
     | i+1,hw=>simp at hw
theorem it_get {X:KH}:∀ {l:List It} {cs:List Value} {k:Nat} {op:Int} {rg:List Rg},ItC X l cs→l[k]? = some (op,rg)→∃ a c,cs[k*2]? = some (.int .i64 op)∧cs[k*2+1]? = some (.slice a rg.length c)∧kold X 2 a rg.length=some (rgC rg)
 | [],cs,k,op,rg,h,hk=>by simp at hk
 | (op',l') :: r,cs,0,op,rg,⟨a,c,ds,h1,h2,h3⟩,hk=>by
  have hk:(op',l')=(op,rg):=by simpa using hk
  cases hk
  subst h1
  exact ⟨a,c,rfl,rfl,h2⟩
 | (op',l') :: r,cs,k+1,op,rg,⟨a,c,ds,h1,h2,h3⟩,hk=>by
  obtain ⟨a',c',g1,g2,g3⟩:=it_get (k:=k) h3 (by simpa using hk)
  subst h1
  refine ⟨a',c',?_,?_,g3⟩
  ·rw [show (k+1)*2=k*2+2 by omega]; exact g1
  ·rw [show (k+1)*2+1=k*2+1+2 by omega]; exact g2
theorem rg_get:∀ {l:List Rg} {j:Nat} {r:Rg},l[j]? = some r→(rgC l)[j*2]? = some (.int .u8 r.1)∧(rgC l)[j*2+1]? = some (.int .u8 r.2)
 | [],j,r,h=>by simp at h
 | x :: l,0,r,h=>by
   have:x=r:=by simpa using h
   subst this; exact ⟨rfl,rfl⟩
 | x :: l,j+1,r,h=>by
   obtain ⟨g1,g2⟩:=rg_get (j:=j) (l:=l) (by simpa using h)
   refine ⟨?_,?_⟩
   ·rw [show (j+1)*2=j*2+2 by omega]; exact g1
   ·rw [show (j+1)*2+1=j*2+1+2 by omega]; exact g2
def Wl (B:Nat) (σ:RdS):Prop:=∀ i∈σ.items,i.2.length≤B
theorem wl_app {B:Nat} {l:List It} {i:It} (h:∀ i∈l,i.2.length≤B) (hi:i.2.length≤B):∀ j∈l++[i],j.2.length≤B:=fun j hj=>by
 rcases List.mem_append.1 hj with hj | hj
 ·exact h j hj
 ·have:j=i:=by simpa using hj
  subst this; exact hi
theorem wl_join {B:Nat} {σ:RdS} (h:Wl B σ):Wl B (joinR σ):=by
 unfold joinR
 split
 ·exact wl_app h (by simp)
 ·exact h
theorem wl_add {B:Nat} {σ:RdS} {l:List Rg} (h:Wl B σ) (hl:l.length≤B):Wl B (addClassR σ l):=wl_app (wl_join h) hl
theorem wl_end {B:Nat} {σ τ:RdS} (h:Wl B σ) (he:endR σ=some τ):Wl B τ:=by
 unfold endR at he
 split at he
 ·cases he
 ·cases he
  show ∀ i∈(if (joinR σ).parted=true then putR (joinR σ) 3 else joinR σ).items,_
  split
  ·exact wl_app (wl_join h) (by simp)
  ·exact wl_join h
theorem wl_take {B n:Nat} {σ τ:RdS} {c:Int} {e:Bool} (h:Wl B σ) (hw:Wf n σ) (hn:n≤B) (hB:1≤B) (ht:takeR σ c e=some τ):Wl B τ:=by
 unfold takeR at ht
 split at ht
 ·rename_i l pl hc
  have hl:=(hw.2 l pl hc).1
  unfold inClassR at ht
  split at ht
  ·split at ht
   ·cases ht; exact h
   ·cases ht
  ·split at ht
   ·split at ht
    ·cases ht; exact h
    ·cases ht
   ·split at ht
    ·split at ht
     ·cases ht; exact wl_add h (by omega)
     ·cases ht
    ·cases ht
 ·split at ht
  ·cases ht; exact wl_add h (by simpa using hB)
  ·unfold markR at ht
   split at ht
   ·unfold openR at ht
    split at ht
    ·cases ht; exact wl_join h
    ·cases ht
   split at ht
   ·unfold closeR at ht
    split at ht
    ·cases ht
    ·split at ht
     ·cases ht
     ·rename_i he
      cases ht
      have:=wl_end h he
      exact this
   split at ht
   ·unfold openC at ht
    split at ht
    ·cases ht; exact h
    ·cases ht
   split at ht
   ·cases ht; exact wl_add h (by simpa using hB)
   split at ht
   ·exact wl_end h ht
   have rep:∀ op,repeatR σ op=some τ→Wl B τ:=fun op ht=>by
    unfold repeatR at ht
    split at ht
    ·cases ht
    ·cases ht; exact wl_app h (by simp)
   split at ht
   ·exact rep _ ht
   split at ht
   ·exact rep _ ht
   split at ht
   ·exact rep _ ht
   ·cases ht
theorem wl_fold {B:Nat} (hB:1≤B):∀ {l:List (Int × Bool)} {n:Nat} {σ τ:RdS},Wl B σ→Wf n σ→n+l.length≤B→foldT σ l=some τ→Wl B τ∧Wf (n+l.length) τ
 | [],n,σ,τ,h,hw,hn,hf=>by cases hf; exact ⟨h,hw⟩
 | (c,e) :: l,n,σ,τ,h,hw,hn,hf=>by
  rw [foldT] at hf
  simp only [List.length_cons] at hn ⊢
  cases ht:takeR σ c e with
  | none=>rw [ht] at hf; cases hf
  | some ρ =>
    rw [ht] at hf
    have:=wl_fold hB (wl_take h hw (by omega) hB ht) (take_wf hw ht) (by omega) hf
    rw [show n+(l.length+1)=n+1+l.length by omega]
    exact this
theorem parse_small {s:ByteArray} {l:List It} (h:parseR s=some l):l.length≤100∧∀ i∈l,i.2.length≤100000:=by
 unfold parseR at h
 split at h
 ·cases h
 ·rename_i hs
  unfold readR at h
  split at h
  ·cases h
  ·rename_i σ hf
   split at h
   ·cases h
   ·rename_i τ he
    cases h
    have hl:=let_len (bytesI s) false
    rw [bytes_len] at hl
    obtain ⟨h1,h2⟩:=wl_fold (B:=100) (n:=0) (by omega) (σ:=rd0) (fun i hi=>by cases hi) ⟨by decide,fun l pl q=>by cases q⟩ (by omega) hf
    have he2:endR σ=some τ:=by
     unfold finR at he
     split at he
     ·cases he
     ·split at he
      ·exact he
      ·cases he
    have h3:=end_len he2
    have h4:=h2.1
    refine ⟨by omega,fun i hi=>?_⟩
    have:=wl_end h1 he2 i hi
    omega
structure ItAt (H:KH) (a:OA) (k:Nat) (op:Int) (rg:List Rg) (b o:Nat) (ar:OA) (cr:Nat):Prop where
 eq:a=some ⟨b,o,none⟩
 c0:ld H ⟨b,o+k*2+0,none⟩ [.int .i64 op]
 c1:ld H ⟨b,o+k*2+1,none⟩ [.slice ar rg.length cr]
 row:kold H 2 ar rg.length=some (rgC rg)
theorem ItR.at {H:KH} {l:List It} {a:OA} (h:ItR H l a) {k:Nat} {op:Int} {rg:List Rg} (hk:l[k]? = some (op,rg)):∃ b o ar cr,ItAt H a k op rg b o ar cr:=by
 obtain ⟨cs,h1,h2⟩:=h
 have hlt:0<l.length:=by
  rcases Nat.lt_or_ge k l.length with q | q
  ·omega
  ·rw [List.getElem?_eq_none q] at hk; cases hk
 obtain ⟨b,o,rfl,h3⟩:=koldAt h1 hlt
 obtain ⟨ar,cr,g1,g2,g3⟩:=it_get h2 hk
 exact ⟨b,o,ar,cr,rfl,h3 _ _ g1,by rw [Nat.add_assoc]; exact h3 _ _ g2,g3⟩
end Go.Ew
namespace Go.Proofs.Ytlgpleiobieniaa
open Go.Ev Go.Ew
namespace Va
section
variable (ok : EnvOk (env Try.prog))
include ok
end
end Va
end Go.Proofs.Ytlgpleiobieniaa
set_option linter.unusedVariables false
set_option linter.unusedSimpArgs false
namespace Go.Ew
open Go.Ev Go.Deep
structure P3 (X H:KH) (p:Nat) (s:ByteArray) (i:Nat) (b:Bool):Prop where
 le:Le X H
 xp:X p=none
 ex:∃ e,H p=some e∧wrB e=true∧rd e.cells 0 3=some [.string s,.int .i64 (i:Nat),.bool b]
section
variable {X H : KH} {p : Nat} {s : ByteArray} {i : Nat} {b : Bool}
theorem P3.all (h:P3 X H p s i b):ld H ⟨p,0,none⟩ [.string s,.int .i64 (i:Nat),.bool b]:=by
 obtain ⟨e,h1,h2,h3⟩:=h.ex
 exact ⟨rfl,e,h1,h3⟩
theorem P3.c0 (h:P3 X H p s i b):ld H ⟨p,0,none⟩ [.string s]:=by have:=ldSub h.all 0 1 (by simp); simpa using this
theorem P3.c1 (h:P3 X H p s i b):ld H ⟨p,1,none⟩ [.int .i64 (i:Nat)]:=by have:=ldSub h.all 1 1 (by simp); simpa using this
theorem P3.c2 (h:P3 X H p s i b):ld H ⟨p,2,none⟩ [.bool b]:=by have:=ldSub h.all 2 1 (by simp); simpa using this
theorem P3.may (h:P3 X H p s i b):KH.may H p:=by
 obtain ⟨e,h1,h2,h3⟩:=h.ex
 exact ⟨e,h1,h2⟩
end
def peekM (s:ByteArray) (i:Nat):Int:=if s.size≤i then 0 else byteAt s i
def specB (c:Int) (all:ByteArray):Bool:=decide (c∈bytesI all)
def oneM (s all:ByteArray) (i:Nat):Int × Nat × Bool :=
 if peekM s i=92 then (peekM s (i+1),i+2,!(specB (peekM s (i+1)) all))
 else (peekM s i,i+1,decide (peekM s i<32)||(decide (126<peekM s i)||specB (peekM s i) all))
end Go.Ew
namespace Go.Proofs.Ytlgpleiobieniaa
open Go.Ev Go.Ew
namespace Va
section
variable (ok : EnvOk (env Try.prog))
include ok
end
end Va
end Go.Proofs.Ytlgpleiobieniaa
set_option linter.unusedVariables false
set_option linter.unusedSimpArgs false
namespace Go.Ew
open Go.Ev Go.Deep
end Go.Ew
set_option linter.unusedVariables false
set_option linter.unusedSimpArgs false
namespace Go.Ew
open Go.Ev Go.Deep
end Go.Ew
