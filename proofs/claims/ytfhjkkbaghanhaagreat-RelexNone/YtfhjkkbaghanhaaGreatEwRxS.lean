import Derived.Test.YtfhjkkbaghanhaaGreatEwRx4
import Derived.Test.YtfhjkkbaghanhaaGreatEwRx1
set_option linter.unusedVariables false
set_option linter.unusedSimpArgs false
namespace Go.Ew
open Go.Ev Go.Deep
def pre (P:List It) (σ:RdS):RdS:={ σ with items:=P++σ.items }
theorem pre_put (P:List It) (σ:RdS) (op:Int):putR (pre P σ) op=pre P (putR σ op):=by simp [putR,pre]
theorem pre_join (P:List It) (σ:RdS):joinR (pre P σ)=pre P (joinR σ):=by
 unfold joinR
 show (if σ.atoms=2 then _ else _)=_
 by_cases h:σ.atoms=2
 ·rw [if_pos h,if_pos h]; simp [putR,pre]
 ·rw [if_neg h,if_neg h]
theorem pre_add (P:List It) (σ:RdS) (l:List Rg):addClassR (pre P σ) l=pre P (addClassR σ l):=by
 unfold addClassR
 rw [pre_join]
 simp [pre]
theorem pre_end (P:List It) (σ:RdS):endR (pre P σ)=(endR σ).map (pre P):=by
 unfold endR
 rw [pre_join]
 show (if σ.atoms=0 then _ else _)=_
 by_cases h:σ.atoms=0
 ·rw [if_pos h,if_pos h]; rfl
 ·rw [if_neg h,if_neg h]
  show some { (if (joinR σ).parted=true then putR (pre P (joinR σ)) 3 else pre P (joinR σ)) with parted:=true,atoms:=0 }=_
  by_cases hp:(joinR σ).parted=true
  ·simp only [if_pos hp,pre_put]; rfl
  ·simp only [if_neg hp]; rfl
theorem pre_rep (P:List It) (σ:RdS) (op:Int):repeatR (pre P σ) op=(repeatR σ op).map (pre P):=by
 unfold repeatR
 show (if σ.atoms=0 then _ else _)=_
 by_cases h:σ.atoms=0
 ·rw [if_pos h,if_pos h]; rfl
 ·rw [if_neg h,if_neg h,pre_put]; rfl
theorem pre_open (P:List It) (σ:RdS):openR (pre P σ)=(openR σ).map (pre P):=by
 unfold openR
 rw [pre_join]
 show (if σ.outer.length<12 then _ else _)=_
 by_cases h:σ.outer.length<12
 ·rw [if_pos h,if_pos h]; rfl
 ·rw [if_neg h,if_neg h]; rfl
theorem pre_close (P:List It) (σ:RdS):closeR (pre P σ)=(closeR σ).map (pre P):=by
 unfold closeR
 rw [pre_end]
 show (match σ.outer.getLast? with | none=>none | some g=>_)=_
 cases σ.outer.getLast? with
 | none=>rfl
 | some g =>
   cases endR σ with
   | none=>rfl
   | some τ=>rfl
theorem pre_openC (P:List It) (σ:RdS):openC (pre P σ)=(openC σ).map (pre P):=by
 unfold openC
 show (if σ.outer.length<12 then _ else _)=_
 by_cases h:σ.outer.length<12
 ·rw [if_pos h,if_pos h]; rfl
 ·rw [if_neg h,if_neg h]; rfl
theorem pre_take (P:List It) (σ:RdS) (c:Int) (e:Bool):takeR (pre P σ) c e=(takeR σ c e).map (pre P):=by
 obtain ⟨items,outer,b,a,cls⟩:=σ
 cases cls with
 | some x =>
   obtain ⟨l,pl⟩:=x
   show inClassR _ l pl c e=(inClassR _ l pl c e).map _
   unfold inClassR
   split
   ·cases addC l pl c<;>rfl
   ·split
    ·split<;>rfl
    ·split
     ·split
      ·rw [pre_add]; rfl
      ·rfl
     ·rfl
 | none =>
   show (if standsB c e marksB=true then _ else _)=Option.map _ (if standsB c e marksB=true then _ else _)
   split
   ·rw [pre_add]; rfl
   ·unfold markR
    split
    ·exact pre_open P _
    split
    ·exact pre_close P _
    split
    ·exact pre_openC P _
    split
    ·rw [pre_add]; rfl
    split
    ·exact pre_end P _
    split
    ·exact pre_rep P _ _
    split
    ·exact pre_rep P _ _
    split
    ·exact pre_rep P _ _
    ·rfl
theorem pre_fold (P:List It):∀ (l:List (Int × Bool)) (σ:RdS),foldT (pre P σ) l=(foldT σ l).map (pre P)
 | [],σ=>rfl
 | (c,e) :: l,σ=>by
  simp only [foldT,pre_take]
  cases takeR σ c e with
  | none=>rfl
  | some τ=>exact pre_fold P l τ
def Go1 (ls:List (Int × Bool)) (b:Bool) (a:Int):Prop:=∃ I b' a',(a'=1∨a'=2)∧foldT ⟨[],[],b,a,none⟩ ls=some ⟨I,[],b',a',none⟩∧∀ g,foldT ⟨[],[g],b,a,none⟩ ls=some ⟨I,[g],b',a',none⟩
def AdvE (l:List Int):Prop:=∃ ls,(∀ r,letL (l++r) false=ls++letL r false)∧∀ b a,(a=0∨a=1∨a=2)→Go1 ls b a
def SufE (l:List Int):Prop:=∃ ls,(∀ r,letL (l++r) false=ls++letL r false)∧∀ b a,(a=1∨a=2)→Go1 ls b a
theorem go_app {ls ms:List (Int × Bool)} {b:Bool} {a:Int} (h:Go1 ls b a) (k:∀ b a,(a=1∨a=2)→Go1 ms b a):Go1 (ls++ms) b a:=by
 obtain ⟨I,b1,a1,h1,h2,h3⟩:=h
 obtain ⟨J,b2,a2,k1,k2,k3⟩:=k b1 a1 h1
 refine ⟨I++J,b2,a2,k1,?_,fun g=>?_⟩
 ·rw [foldT_app,h2]
  have:=pre_fold I ms ⟨[],[],b1,a1,none⟩
  rw [k2] at this
  simpa [pre] using this
 ·rw [foldT_app,h3 g]
  have:=pre_fold I ms ⟨[],[g],b1,a1,none⟩
  rw [k3 g] at this
  simpa [pre] using this
theorem AdvE.suf {l m:List Int} (h:AdvE l) (k:SufE m):AdvE (l++m):=by
 obtain ⟨ls,h1,h2⟩:=h
 obtain ⟨ms,k1,k2⟩:=k
 exact ⟨ls++ms,fun r=>by rw [List.append_assoc,h1,k1,List.append_assoc],fun b a ha=>go_app (h2 b a ha) k2⟩
theorem AdvE.toSuf {l:List Int} (h:AdvE l):SufE l:=by
 obtain ⟨ls,h1,h2⟩:=h
 exact ⟨ls,h1,fun b a ha=>h2 b a (.inr ha)⟩
theorem SufE.nil:SufE []:=⟨[],fun r=>rfl,fun b a ha=>⟨[],b,a,ha,rfl,fun g=>rfl⟩⟩
theorem ad3 {l:List Int} {ls:List (Int × Bool)} (hl:∀ r,letL (l++r) false=ls++letL r false) (h0:∀ b,Go1 ls b 0) (h1:∀ b,Go1 ls b 1) (h2:∀ b,Go1 ls b 2):AdvE l :=
 ⟨ls,hl,fun b a ha=>by
  rcases ha with rfl | rfl | rfl
  ·exact h0 b
  ·exact h1 b
  ·exact h2 b⟩
theorem su2 {l:List Int} {ls:List (Int × Bool)} (hl:∀ r,letL (l++r) false=ls++letL r false) (h1:∀ b,Go1 ls b 1) (h2:∀ b,Go1 ls b 2):SufE l :=
 ⟨ls,hl,fun b a ha=>by
  rcases ha with rfl | rfl
  ·exact h1 b
  ·exact h2 b⟩
theorem ade_a:AdvE [97]:=ad3 (ls:=[(97,false)]) (fun r=>rfl) (fun b=>⟨_,_,_,.inl rfl,rfl,fun g=>rfl⟩) (fun b=>⟨_,_,_,.inr rfl,rfl,fun g=>rfl⟩) (fun b=>⟨_,_,_,.inr rfl,rfl,fun g=>rfl⟩)
theorem ade_b:AdvE [98]:=ad3 (ls:=[(98,false)]) (fun r=>rfl) (fun b=>⟨_,_,_,.inl rfl,rfl,fun g=>rfl⟩) (fun b=>⟨_,_,_,.inr rfl,rfl,fun g=>rfl⟩) (fun b=>⟨_,_,_,.inr rfl,rfl,fun g=>rfl⟩)
theorem ade_c1:AdvE [91,97,98,93]:=ad3 (ls:=[(91,false),(97,false),(98,false),(93,false)]) (fun r=>rfl) (fun b=>⟨_,_,_,.inl rfl,rfl,fun g=>rfl⟩) (fun b=>⟨_,_,_,.inr rfl,rfl,fun g=>rfl⟩) (fun b=>⟨_,_,_,.inr rfl,rfl,fun g=>rfl⟩)
theorem ade_ab:AdvE [97,98]:=ad3 (ls:=[(97,false),(98,false)]) (fun r=>rfl) (fun b=>⟨_,_,_,.inr rfl,rfl,fun g=>rfl⟩) (fun b=>⟨_,_,_,.inr rfl,rfl,fun g=>rfl⟩) (fun b=>⟨_,_,_,.inr rfl,rfl,fun g=>rfl⟩)
theorem ade_g1:AdvE [40,97,124,98,41]:=ad3 (ls:=[(40,false),(97,false),(124,false),(98,false),(41,false)]) (fun r=>rfl) (fun b=>⟨_,_,_,.inl rfl,rfl,fun g=>rfl⟩) (fun b=>⟨_,_,_,.inr rfl,rfl,fun g=>rfl⟩) (fun b=>⟨_,_,_,.inr rfl,rfl,fun g=>rfl⟩)
theorem ade_c2:AdvE [91,97,45,99,48,45,49,93]:=ad3 (ls:=[(91,false),(97,false),(45,false),(99,false),(48,false),(45,false),(49,false),(93,false)]) (fun r=>rfl) (fun b=>⟨_,_,_,.inl rfl,rfl,fun g=>rfl⟩) (fun b=>⟨_,_,_,.inr rfl,rfl,fun g=>rfl⟩) (fun b=>⟨_,_,_,.inr rfl,rfl,fun g=>rfl⟩)
theorem ade_g2:AdvE [40,97,98,124,97,41]:=ad3 (ls:=[(40,false),(97,false),(98,false),(124,false),(97,false),(41,false)]) (fun r=>rfl) (fun b=>⟨_,_,_,.inl rfl,rfl,fun g=>rfl⟩) (fun b=>⟨_,_,_,.inr rfl,rfl,fun g=>rfl⟩) (fun b=>⟨_,_,_,.inr rfl,rfl,fun g=>rfl⟩)
theorem ade_dot:AdvE [46]:=ad3 (ls:=[(46,false)]) (fun r=>rfl) (fun b=>⟨_,_,_,.inl rfl,rfl,fun g=>rfl⟩) (fun b=>⟨_,_,_,.inr rfl,rfl,fun g=>rfl⟩) (fun b=>⟨_,_,_,.inr rfl,rfl,fun g=>rfl⟩)
theorem ade_plus:AdvE [92,43]:=ad3 (ls:=[(43,true)]) (fun r=>rfl) (fun b=>⟨_,_,_,.inl rfl,rfl,fun g=>rfl⟩) (fun b=>⟨_,_,_,.inr rfl,rfl,fun g=>rfl⟩) (fun b=>⟨_,_,_,.inr rfl,rfl,fun g=>rfl⟩)
theorem sue_star:SufE [42]:=su2 (ls:=[(42,false)]) (fun r=>rfl) (fun b=>⟨_,_,_,.inl rfl,rfl,fun g=>rfl⟩) (fun b=>⟨_,_,_,.inr rfl,rfl,fun g=>rfl⟩)
theorem sue_plus:SufE [43]:=su2 (ls:=[(43,false)]) (fun r=>rfl) (fun b=>⟨_,_,_,.inl rfl,rfl,fun g=>rfl⟩) (fun b=>⟨_,_,_,.inr rfl,rfl,fun g=>rfl⟩)
theorem sue_may:SufE [63]:=su2 (ls:=[(63,false)]) (fun r=>rfl) (fun b=>⟨_,_,_,.inl rfl,rfl,fun g=>rfl⟩) (fun b=>⟨_,_,_,.inr rfl,rfl,fun g=>rfl⟩)
theorem sue_or1:SufE [124,98]:=su2 (ls:=[(124,false),(98,false)]) (fun r=>rfl) (fun b=>by cases b<;>exact ⟨_,_,_,.inl rfl,rfl,fun g=>rfl⟩) (fun b=>by cases b<;>exact ⟨_,_,_,.inl rfl,rfl,fun g=>rfl⟩)
theorem sue_or2:SufE [124,98,97]:=su2 (ls:=[(124,false),(98,false),(97,false)]) (fun r=>rfl) (fun b=>by cases b<;>exact ⟨_,_,_,.inr rfl,rfl,fun g=>rfl⟩) (fun b=>by cases b<;>exact ⟨_,_,_,.inr rfl,rfl,fun g=>rfl⟩)
theorem sue_or3:SufE [124,99,43]:=su2 (ls:=[(124,false),(99,false),(43,false)]) (fun r=>rfl) (fun b=>by cases b<;>exact ⟨_,_,_,.inl rfl,rfl,fun g=>rfl⟩) (fun b=>by cases b<;>exact ⟨_,_,_,.inl rfl,rfl,fun g=>rfl⟩)
def fins (I:List It) (b:Bool) (a:Int):List It:=(if a=2 then I++[(2,[])] else I)++(if b=true then [(3,[])] else [])
theorem end_is {I:List It} {O:List (Bool × Int)} {b:Bool} {a:Int} (h:a=1∨a=2):endR ⟨I,O,b,a,none⟩=some ⟨fins I b a,O,true,0,none⟩:=by
 rcases h with rfl | rfl<;>cases b<;>simp [endR,joinR,putR,fins]
end Go.Ew
set_option linter.unusedVariables false
set_option linter.unusedSimpArgs false
namespace Go.Ew
open Go.Ev Go.Deep
theorem hide2 {H:KH} {n1 n2:Nat} {A B:Ent} (h1:H n1=none) (h2:H n2=none):hideK ((H.new n1 A).new n2 B) [n2,n1]=H:=by
 funext k
 simp only [hideK,KH.del,KH.new]
 by_cases e2:k=n2
 ·subst e2; simp [h2]
 ·by_cases e1:k=n1
  ·subst e1; simp [e2,h1]
  ·simp [e1,e2]
theorem back2 {H K:KH} {n1 n2:Nat} {A B:Ent} (hn:n1≠n2):backK ((H.new n1 A).new n2 B) K [n2,n1]=(K.new n1 A).new n2 B:=by
 funext k
 simp only [backK,KH.new]
 by_cases e2:k=n2
 ·subst e2; simp
 ·by_cases e1:k=n1
  ·subst e1; simp [e2,hn]
  ·simp [e1,e2]
theorem new_comm {H:KH} {a b:Nat} {x y:Ent} (h:a≠b):(H.new a x).new b y=(H.new b y).new a x:=by
 funext k
 simp only [KH.new]
 by_cases e1:k=a
 ·subst e1; simp [h]
 ·by_cases e2:k=b
  ·subst e2; simp [e1]
  ·simp [e1,e2]
theorem PK.more {K H:KH} {p n:Nat} {e':Ent} (h:PK K p H) (hn:H n=none):PK (K.new n e') p (H.new n e'):=by
 obtain ⟨h1,e,a,m,c,j,rfl,h2,h3,h4,h5,h6⟩:=h
 have hnp:n≠p:=fun x=>by subst x; simp [KH.new] at hn
 have hKn:K n=none:=by simpa [KH.new,hnp] using hn
 refine ⟨by simp only [KH.new]; rw [if_neg (Ne.symm hnp)]; exact h1,e,a,m,c,j,new_comm (Ne.symm hnp),h2,h3,h4,h5,h6.mono (Le.new hKn)⟩
theorem litAt {H:KH} {n j:Nat} {cs:List Value} {v:Value} (h:H n=some (mkEnt cs 0)) (hj:cs[j]? = some v):ld H ⟨n,0+j*1,none⟩ [v]:=by
 refine ⟨rfl,_,h,rd_some rfl fun i w hw=>?_⟩
 match i,hw with
 | 0,hw =>
   have:v=w:=by simpa using hw
   subst this
   simp only [mkEnt,tget_wr_nil]
   simpa using hj
 | i+1,hw=>simp at hw
abbrev atomsV:List Value:=[.string (ByteArray.mk #[97]),.string (ByteArray.mk #[98]),.string (ByteArray.mk #[91,97,98,93]),.string (ByteArray.mk #[97,98]),.string (ByteArray.mk #[40,97,124,98,41]),.string (ByteArray.mk #[91,97,45,99,48,45,49,93]),.string (ByteArray.mk #[40,97,98,124,97,41]),.string (ByteArray.mk #[46]),.string (ByteArray.mk #[92,43])]
abbrev sufsV:List Value:=[.string (ByteArray.mk #[]),.string (ByteArray.mk #[]),.string (ByteArray.mk #[42]),.string (ByteArray.mk #[43]),.string (ByteArray.mk #[63])]
abbrev orsV:List Value:=[.string (ByteArray.mk #[98]),.string (ByteArray.mk #[98,97]),.string (ByteArray.mk #[99,43])]
def Adv2 (l:List Int):Prop:=Adv l∧AdvE l
def Suf2 (l:List Int):Prop:=Suf l∧SufE l
theorem Adv2.suf {l m:List Int} (h:Adv2 l) (k:Suf2 m):Adv2 (l++m):=⟨h.1.suf k.1,h.2.suf k.2⟩
theorem Adv2.toSuf {l:List Int} (h:Adv2 l):Suf2 l:=⟨h.1.toSuf,h.2.toSuf⟩
theorem atom_at {x:Int} (h0:0≤x) (h1:x<9):∃ s:ByteArray,atomsV[x.toNat]? = some (.string s)∧Adv2 (bytesI s)∧1≤s.size∧s.size≤8:=by
 have:x.toNat=0∨x.toNat=1∨x.toNat=2∨x.toNat=3∨x.toNat=4∨x.toNat=5∨x.toNat=6∨x.toNat=7∨x.toNat=8:=by omega
 rcases this with q | q | q | q | q | q | q | q | q<;>rw [q]
 ·exact ⟨_,rfl,⟨adv_a,ade_a⟩,by decide,by decide⟩
 ·exact ⟨_,rfl,⟨adv_b,ade_b⟩,by decide,by decide⟩
 ·exact ⟨_,rfl,⟨adv_c1,ade_c1⟩,by decide,by decide⟩
 ·exact ⟨_,rfl,⟨adv_ab,ade_ab⟩,by decide,by decide⟩
 ·exact ⟨_,rfl,⟨adv_g1,ade_g1⟩,by decide,by decide⟩
 ·exact ⟨_,rfl,⟨adv_c2,ade_c2⟩,by decide,by decide⟩
 ·exact ⟨_,rfl,⟨adv_g2,ade_g2⟩,by decide,by decide⟩
 ·exact ⟨_,rfl,⟨adv_dot,ade_dot⟩,by decide,by decide⟩
 ·exact ⟨_,rfl,⟨adv_plus,ade_plus⟩,by decide,by decide⟩
theorem suf_at {x:Int} (h0:0≤x) (h1:x<5):∃ s:ByteArray,sufsV[x.toNat]? = some (.string s)∧Suf2 (bytesI s)∧s.size≤1:=by
 have:x.toNat=0∨x.toNat=1∨x.toNat=2∨x.toNat=3∨x.toNat=4:=by omega
 rcases this with q | q | q | q | q<;>rw [q]
 ·exact ⟨_,rfl,⟨Suf.nil,SufE.nil⟩,by decide⟩
 ·exact ⟨_,rfl,⟨Suf.nil,SufE.nil⟩,by decide⟩
 ·exact ⟨_,rfl,⟨suf_star,sue_star⟩,by decide⟩
 ·exact ⟨_,rfl,⟨suf_plus,sue_plus⟩,by decide⟩
 ·exact ⟨_,rfl,⟨suf_may,sue_may⟩,by decide⟩
theorem or_at {x:Int} (h0:0≤x) (h1:x<3):∃ s:ByteArray,orsV[x.toNat]? = some (.string s)∧Suf2 (124 :: bytesI s)∧s.size≤2:=by
 have:x.toNat=0∨x.toNat=1∨x.toNat=2:=by omega
 rcases this with q | q | q<;>rw [q]
 ·exact ⟨_,rfl,⟨suf_or1,sue_or1⟩,by decide⟩
 ·exact ⟨_,rfl,⟨suf_or2,sue_or2⟩,by decide⟩
 ·exact ⟨_,rfl,⟨suf_or3,sue_or3⟩,by decide⟩
theorem size_app (a b:ByteArray):(a++b).size=a.size+b.size:=ByteArray.size_append
end Go.Ew
namespace Go.Proofs.YtfhjkkbaghanhaaGreat
open Go.Ev Go.Ew
namespace Va
section
variable (ok : EnvOk (env Tryz.prog))
include ok
theorem c19 {K H:KH} {p:Nat} {Q:PQ} (hp:PK K p H) (hq:∀ s K' H',(∃ l,parseR s=some l)→Adv2 (bytesI s)→1≤s.size∧s.size≤24→Le K K'→PK K' p H'→Q (.string s) H'):Does (env Tryz.prog) 19 [.pointer (some ⟨p,0,none⟩)] H Q:=by
 refine fn19 ok (c18 ok hp (by omega) (by omega) fun x3 H2 hx0 hx1 hp2=>⟨_,rfl,?_⟩)
 have hw:IntKind.wrap .i64 (x3+1)=x3+1:=wrap64 (by omega) (by omega)
 unfold vc19_L2
 have fin:∀ {s:ByteArray} {K' H':KH},Adv2 (bytesI s)→1≤s.size→Le K K'→PK K' p H'→(decide ((24:Int)<((s.size:Nat):Int))=true→Q (.string (ByteArray.mk #[97])) H')∧(decide ((24:Int)<((s.size:Nat):Int))=false→Q (.string s) H'):=by
  intro s K' H' ha h1 hl hk
  refine ⟨fun _=>?_,fun h=>?_⟩
  ·have hA:Adv2 (bytesI (ByteArray.mk #[97])):=⟨adv_a,ade_a⟩
   exact hq _ K' H' (adv_parse hA.1 (by decide) (by decide)) hA ⟨by decide,by decide⟩ hl hk
  ·have h:=of_decide_eq_false h
   exact hq _ K' H' (adv_parse ha.1 h1 (by omega)) ha ⟨h1,by omega⟩ hl hk
 refine ⟨fun m n4 n5 s6 x7 H8=>n4=p∧n5=0∧x7=(m:Nat)∧m≤3∧s6.size≤9*(3-m)∧∃ K',PK K' p H8∧Le K K'∧((1≤m∧s6=ByteArray.mk #[])∨(Adv2 (bytesI s6)∧1≤s6.size)),⟨(x3+1).toNat,rfl,rfl,rfl,by rw [hw]; omega,by omega,by show (0:Nat)≤_; omega,K,hp2,Le.refl _,.inl ⟨by omega,rfl⟩⟩,?_⟩
 rintro m n4 n5 s6 x7 H8 ⟨rfl,rfl,rfl,hm,hsz,K',hpk,hle,hs⟩
 refine ⟨fun hlt=>⟨trivial,fun n1 hn1 n2 hn2=>?_⟩,fun hge=>?_⟩
 ·have hlt:0<m:=by have:=of_decide_eq_true hlt; omega
  have hn12:n1≠n2:=fun x=>by subst x; simp [KH.new] at hn2
  have hH2:H8 n2=none:=by simpa [KH.new,Ne.symm hn12] using hn2
  have hb:=fun K0:KH=>back2 (H:=H8) (K:=K0) (A:=mkEnt atomsV 0) (B:=mkEnt sufsV 0) hn12
  rw [hide2 hn1 hH2]
  refine c18 ok hpk (by omega) (by omega) fun x5 H4 h50 h51 hp4=>⟨_,rfl,fun a2 a1=>⟨⟨rfl,rfl,trivial⟩,⟨by omega,by omega⟩,n1,0,rfl,?_⟩⟩
  obtain ⟨s8,t1,t2,t3,t4⟩:=atom_at h50 h51
  have hb2:=fun K0:KH=>back2 (H:=H4) (K:=K0) (A:=mkEnt atomsV 0) (B:=mkEnt sufsV 0) hn12
  rw [hb H4,hide2 a1 a2]
  have l1:∀ K0:KH,ld ((K0.new n1 (mkEnt atomsV 0)).new n2 (mkEnt sufsV 0)) ⟨n1,0+x5.toNat*1,none⟩ [.string s8]:=fun K0=>litAt (cs:=atomsV) (by simp [KH.new,hn12]) t1
  refine ⟨s8,l1 H4,by omega,c18 ok hp4 (by omega) (by omega) fun x11 H10 h110 h111 hp10=>⟨_,rfl,fun b2 b1=>?_⟩⟩
  rw [hb2 H10]
  obtain ⟨s17,u1,u2,u3⟩:=suf_at h110 h111
  have l2:ld ((H10.new n1 (mkEnt atomsV 0)).new n2 (mkEnt sufsV 0)) ⟨n2,0+x11.toNat*1,none⟩ [.string s17]:=litAt (cs:=sufsV) (by simp [KH.new]) u1
  have hsz2:=size_app s6 s8
  have hsz3:=size_app (s6++s8) s17
  refine ⟨⟨rfl,⟨⟨by omega,by omega⟩,n1,0,rfl,rfl⟩,⟨s8,l1 H10,rfl⟩,⟨by omega,rfl⟩,trivial⟩,⟨by omega,by omega⟩,n2,0,rfl,s17,l2,by omega,m-1,by omega,rfl,rfl,rfl,by rw [wrap64 (by omega) (by omega)]; omega,by omega,by omega,(K'.new n1 (mkEnt atomsV 0)).new n2 (mkEnt sufsV 0),(hp10.more b1).more (by simp [KH.new,Ne.symm hn12,b2]),?_,.inr ⟨?_,by omega⟩⟩
  ·have k1:K' n1=none:=hpk.le.none hn1
   have k2:K' n2=none:=hpk.le.none hH2
   exact (hle.trans (Le.new k1)).trans (Le.new (by simp [KH.new,Ne.symm hn12,k2]))
  ·rw [bytes_app,bytes_app]
   rcases hs with ⟨_,rfl⟩ | ⟨hs,_⟩
   ·have:bytesI (ByteArray.mk #[])=[]:=rfl
    rw [this,List.nil_append]
    exact t2.suf u2
   ·exact (hs.suf t2.toSuf).suf u2
 ·have hm0:m=0:=by have:=of_decide_eq_false hge; omega
  subst hm0
  have hs:Adv2 (bytesI s6)∧1≤s6.size:=by
   rcases hs with ⟨h,_⟩ | h
   ·omega
   ·exact h
  refine c18 ok hpk (by omega) (by omega) fun x3 H3 h30 h31 hp3=>⟨_,rfl,fun h1=>⟨fun h2=>⟨?_,fun nA hnA=>?_⟩,fun h2=>fin hs.1 hs.2 hle hp3⟩,fun h1=>fin hs.1 hs.2 hle hp3⟩
  ·have:(ByteArray.mk #[124]).size=1:=rfl
   omega
  ·have hp4:=hp3.more (e':=mkEnt orsV 0) hnA
   have k4:K' nA=none:=hp3.le.none hnA
   have hat:∀ H6:KH,PK (K'.new nA (mkEnt orsV 0)) n4 H6→H6 nA=some (mkEnt orsV 0):=fun H6 h=>h.le _ _ (if_pos rfl)
   refine c18 ok hp4 (by omega) (by omega) fun x7 H6 h70 h71 hp6=>⟨_,rfl,⟨by omega,by omega⟩,nA,0,rfl,?_⟩
   obtain ⟨s10,t1,t2,t3⟩:=or_at h70 h71
   have e1:(ByteArray.mk #[124]).size=1:=rfl
   have hsz2:=size_app s6 (ByteArray.mk #[124])
   have hsz3:=size_app (s6++ByteArray.mk #[124]) s10
   refine ⟨s10,litAt (hat H6 hp6) t1,by omega,fin ?_ (by omega) (hle.trans (Le.new k4)) hp6⟩
   rw [bytes_app,bytes_app,List.append_assoc]
   exact hs.1.suf t2
end
end Va
end Go.Proofs.YtfhjkkbaghanhaaGreat
set_option linter.unusedVariables false
set_option linter.unusedSimpArgs false
namespace Go.Ew
open Go.Ev Go.Deep
theorem koldAt {H:KH} {a:OA} {n:Nat} {cs:List Value} (h:kold H 2 a n=some cs) (hn:0<n):∃ b o,a=some ⟨b,o,none⟩∧∀ j v,cs[j]? = some v→ld H ⟨b,o+j,none⟩ [v]:=by
 have hnb:Nat.beq n 0=false:=by
  cases hq:Nat.beq n 0 with
  | false=>rfl
  | true=>have:=Nat.eq_of_beq_eq_true hq; omega
 cases a with
 | none=>unfold kold at h; rw [hnb] at h; cases h
 | some ad =>
   obtain ⟨b,o,sp⟩:=ad
   cases sp with
   | some x=>simp only [kold] at h; rw [hnb] at h; cases h
   | none =>
     obtain ⟨e,he,hr⟩:=kold_some.1 h
     refine ⟨b,o,rfl,fun j v hv=>⟨rfl,e,he,rd_some rfl fun i w hw=>?_⟩⟩
     match i,hw with
     | 0,hw =>
       have:v=w:=by simpa using hw
       subst this
       exact rd_get hr j v hv
     | i+1,hw=>simp at hw
theorem it_get {X:KH}:∀ {l:List It} {cs:List Value} {k:Nat} {op:Int} {rg:List Rg},ItC X l cs→l[k]? = some (op,rg)→∃ a c,cs[k*2]? = some (.int .i64 op)∧cs[k*2+1]? = some (.slice a rg.length c)∧kold X 2 a rg.length=some (rgC rg)
 | [],cs,k,op,rg,h,hk=>by simp at hk
 | (op',l') :: r,cs,0,op,rg,⟨a,c,ds,h1,h2,h3⟩,hk=>by
  have hk:(op',l')=(op,rg):=by simpa using hk
  cases hk
  subst h1
  exact ⟨a,c,rfl,rfl,h2⟩
 | (op',l') :: r,cs,k+1,op,rg,⟨a,c,ds,h1,h2,h3⟩,hk=>by
  obtain ⟨a',c',g1,g2,g3⟩:=it_get (k:=k) h3 (by simpa using hk)
  subst h1
  refine ⟨a',c',?_,?_,g3⟩
  ·rw [show (k+1)*2=k*2+2 by omega]; exact g1
  ·rw [show (k+1)*2+1=k*2+1+2 by omega]; exact g2
theorem rg_get:∀ {l:List Rg} {j:Nat} {r:Rg},l[j]? = some r→(rgC l)[j*2]? = some (.int .u8 r.1)∧(rgC l)[j*2+1]? = some (.int .u8 r.2)
 | [],j,r,h=>by simp at h
 | x :: l,0,r,h=>by
   have:x=r:=by simpa using h
   subst this; exact ⟨rfl,rfl⟩
 | x :: l,j+1,r,h=>by
   obtain ⟨g1,g2⟩:=rg_get (j:=j) (l:=l) (by simpa using h)
   refine ⟨?_,?_⟩
   ·rw [show (j+1)*2=j*2+2 by omega]; exact g1
   ·rw [show (j+1)*2+1=j*2+1+2 by omega]; exact g2
def Wl (B:Nat) (σ:RdS):Prop:=∀ i∈σ.items,i.2.length≤B
theorem wl_app {B:Nat} {l:List It} {i:It} (h:∀ i∈l,i.2.length≤B) (hi:i.2.length≤B):∀ j∈l++[i],j.2.length≤B:=fun j hj=>by
 rcases List.mem_append.1 hj with hj | hj
 ·exact h j hj
 ·have:j=i:=by simpa using hj
  subst this; exact hi
theorem wl_join {B:Nat} {σ:RdS} (h:Wl B σ):Wl B (joinR σ):=by
 unfold joinR
 split
 ·exact wl_app h (by simp)
 ·exact h
theorem wl_add {B:Nat} {σ:RdS} {l:List Rg} (h:Wl B σ) (hl:l.length≤B):Wl B (addClassR σ l):=wl_app (wl_join h) hl
theorem wl_end {B:Nat} {σ τ:RdS} (h:Wl B σ) (he:endR σ=some τ):Wl B τ:=by
 unfold endR at he
 split at he
 ·cases he
 ·cases he
  show ∀ i∈(if (joinR σ).parted=true then putR (joinR σ) 3 else joinR σ).items,_
  split
  ·exact wl_app (wl_join h) (by simp)
  ·exact wl_join h
theorem wl_take {B n:Nat} {σ τ:RdS} {c:Int} {e:Bool} (h:Wl B σ) (hw:Wf n σ) (hn:n≤B) (hB:1≤B) (ht:takeR σ c e=some τ):Wl B τ:=by
 unfold takeR at ht
 split at ht
 ·rename_i l pl hc
  have hl:=(hw.2 l pl hc).1
  unfold inClassR at ht
  split at ht
  ·split at ht
   ·cases ht; exact h
   ·cases ht
  ·split at ht
   ·split at ht
    ·cases ht; exact h
    ·cases ht
   ·split at ht
    ·split at ht
     ·cases ht; exact wl_add h (by omega)
     ·cases ht
    ·cases ht
 ·split at ht
  ·cases ht; exact wl_add h (by simpa using hB)
  ·unfold markR at ht
   split at ht
   ·unfold openR at ht
    split at ht
    ·cases ht; exact wl_join h
    ·cases ht
   split at ht
   ·unfold closeR at ht
    split at ht
    ·cases ht
    ·split at ht
     ·cases ht
     ·rename_i he
      cases ht
      have:=wl_end h he
      exact this
   split at ht
   ·unfold openC at ht
    split at ht
    ·cases ht; exact h
    ·cases ht
   split at ht
   ·cases ht; exact wl_add h (by simpa using hB)
   split at ht
   ·exact wl_end h ht
   have rep:∀ op,repeatR σ op=some τ→Wl B τ:=fun op ht=>by
    unfold repeatR at ht
    split at ht
    ·cases ht
    ·cases ht; exact wl_app h (by simp)
   split at ht
   ·exact rep _ ht
   split at ht
   ·exact rep _ ht
   split at ht
   ·exact rep _ ht
   ·cases ht
theorem wl_fold {B:Nat} (hB:1≤B):∀ {l:List (Int × Bool)} {n:Nat} {σ τ:RdS},Wl B σ→Wf n σ→n+l.length≤B→foldT σ l=some τ→Wl B τ∧Wf (n+l.length) τ
 | [],n,σ,τ,h,hw,hn,hf=>by cases hf; exact ⟨h,hw⟩
 | (c,e) :: l,n,σ,τ,h,hw,hn,hf=>by
  rw [foldT] at hf
  simp only [List.length_cons] at hn ⊢
  cases ht:takeR σ c e with
  | none=>rw [ht] at hf; cases hf
  | some ρ =>
    rw [ht] at hf
    have:=wl_fold hB (wl_take h hw (by omega) hB ht) (take_wf hw ht) (by omega) hf
    rw [show n+(l.length+1)=n+1+l.length by omega]
    exact this
theorem parse_small {s:ByteArray} {l:List It} (h:parseR s=some l):l.length≤100∧∀ i∈l,i.2.length≤100000:=by
 unfold parseR at h
 split at h
 ·cases h
 ·rename_i hs
  unfold readR at h
  split at h
  ·cases h
  ·rename_i σ hf
   split at h
   ·cases h
   ·rename_i τ he
    cases h
    have hl:=let_len (bytesI s) false
    rw [bytes_len] at hl
    obtain ⟨h1,h2⟩:=wl_fold (B:=100) (n:=0) (by omega) (σ:=rd0) (fun i hi=>by cases hi) ⟨by decide,fun l pl q=>by cases q⟩ (by omega) hf
    have he2:endR σ=some τ:=by
     unfold finR at he
     split at he
     ·cases he
     ·split at he
      ·exact he
      ·cases he
    have h3:=end_len he2
    have h4:=h2.1
    refine ⟨by omega,fun i hi=>?_⟩
    have:=wl_end h1 he2 i hi
    omega
structure ItAt (H:KH) (a:OA) (k:Nat) (op:Int) (rg:List Rg) (b o:Nat) (ar:OA) (cr:Nat):Prop where
 eq:a=some ⟨b,o,none⟩
 c0:ld H ⟨b,o+k*2+0,none⟩ [.int .i64 op]
 c1:ld H ⟨b,o+k*2+1,none⟩ [.slice ar rg.length cr]
 row:kold H 2 ar rg.length=some (rgC rg)
theorem ItR.at {H:KH} {l:List It} {a:OA} (h:ItR H l a) {k:Nat} {op:Int} {rg:List Rg} (hk:l[k]? = some (op,rg)):∃ b o ar cr,ItAt H a k op rg b o ar cr:=by
 obtain ⟨cs,h1,h2⟩:=h
 have hlt:0<l.length:=by
  rcases Nat.lt_or_ge k l.length with q | q
  ·omega
  ·rw [List.getElem?_eq_none q] at hk; cases hk
 obtain ⟨b,o,rfl,h3⟩:=koldAt h1 hlt
 obtain ⟨ar,cr,g1,g2,g3⟩:=it_get h2 hk
 exact ⟨b,o,ar,cr,rfl,h3 _ _ g1,by rw [Nat.add_assoc]; exact h3 _ _ g2,g3⟩
end Go.Ew
namespace Go.Proofs.YtfhjkkbaghanhaaGreat
open Go.Ev Go.Ew
namespace Va
section
variable (ok : EnvOk (env Tryz.prog))
include ok
end
end Va
end Go.Proofs.YtfhjkkbaghanhaaGreat
set_option linter.unusedVariables false
set_option linter.unusedSimpArgs false
namespace Go.Ew
open Go.Ev Go.Deep
structure P3 (X H:KH) (p:Nat) (s:ByteArray) (i:Nat) (b:Bool):Prop where
 le:Le X H
 xp:X p=none
 ex:∃ e,H p=some e∧wrB e=true∧rd e.cells 0 3=some [.string s,.int .i64 (i:Nat),.bool b]
section
variable {X H : KH} {p : Nat} {s : ByteArray} {i : Nat} {b : Bool}
theorem P3.all (h:P3 X H p s i b):ld H ⟨p,0,none⟩ [.string s,.int .i64 (i:Nat),.bool b]:=by
 obtain ⟨e,h1,h2,h3⟩:=h.ex
 exact ⟨rfl,e,h1,h3⟩
theorem P3.c0 (h:P3 X H p s i b):ld H ⟨p,0,none⟩ [.string s]:=by have:=ldSub h.all 0 1 (by simp); simpa using this
theorem P3.c1 (h:P3 X H p s i b):ld H ⟨p,1,none⟩ [.int .i64 (i:Nat)]:=by have:=ldSub h.all 1 1 (by simp); simpa using this
theorem P3.c2 (h:P3 X H p s i b):ld H ⟨p,2,none⟩ [.bool b]:=by have:=ldSub h.all 2 1 (by simp); simpa using this
theorem P3.may (h:P3 X H p s i b):KH.may H p:=by
 obtain ⟨e,h1,h2,h3⟩:=h.ex
 exact ⟨e,h1,h2⟩
theorem P3.setAt (h:P3 X H p s i b) (j:Nat):P3 X (H.put ⟨p,1,none⟩ [.int .i64 (j:Nat)]) p s j b:=by
 obtain ⟨e,h1,h2,h3⟩:=h.ex
 refine ⟨fun k e' q=>put_ne (fun x=>by rw [x,h.xp] at q; cases q) (h.le k e' q),h.xp,⟨wr e.cells 1 [.int .i64 (j:Nat)],e.len,e.unk,none⟩,by simp only [KH.put,if_true,h1,Option.map_some],wrB_keep h2,?_⟩
 exact rdWr (xs:=[.string s]) (ys:=[.int .i64 (i:Nat)]) (zs:=[.bool b]) (by simpa using h3) rfl rfl
theorem P3.setBad (h:P3 X H p s i b):P3 X (H.put ⟨p,2,none⟩ [.bool true]) p s i true:=by
 obtain ⟨e,h1,h2,h3⟩:=h.ex
 refine ⟨fun k e' q=>put_ne (fun x=>by rw [x,h.xp] at q; cases q) (h.le k e' q),h.xp,⟨wr e.cells 2 [.bool true],e.len,e.unk,none⟩,by simp only [KH.put,if_true,h1,Option.map_some],wrB_keep h2,?_⟩
 exact rdWr (xs:=[.string s,.int .i64 (i:Nat)]) (ys:=[.bool b]) (zs:=[]) (by simpa using h3) rfl rfl
end
def peekM (s:ByteArray) (i:Nat):Int:=if s.size≤i then 0 else byteAt s i
def specB (c:Int) (all:ByteArray):Bool:=decide (c∈bytesI all)
def oneM (s all:ByteArray) (i:Nat):Int × Nat × Bool :=
 if peekM s i=92 then (peekM s (i+1),i+2,!(specB (peekM s (i+1)) all))
 else (peekM s i,i+1,decide (peekM s i<32)||(decide (126<peekM s i)||specB (peekM s i) all))
end Go.Ew
namespace Go.Proofs.YtfhjkkbaghanhaaGreat
open Go.Ev Go.Ew
namespace Va
section
variable (ok : EnvOk (env Tryz.prog))
include ok
theorem c47 {X H:KH} {p:Nat} {s:ByteArray} {i:Nat} {b:Bool} {Q:PQ} (h:P3 X H p s i b) (hq:Q (.int .u8 (peekM s i)) H):Does (env Tryz.prog) 47 [.pointer (some ⟨p,0,none⟩)] H Q:=by
 refine fn47 ok ⟨trivial,rfl,_,h.c1,rfl,s,h.c0,fun h1=>?_,fun h1=>⟨trivial,rfl,s,h.c0,rfl,_,h.c1,⟨by omega,?_⟩,?_⟩⟩
 ·have h1:=of_decide_eq_true h1
  have:peekM s i=0:=if_pos (by omega)
  rw [this] at hq
  exact hq
 ·have:=of_decide_eq_false h1; omega
 ·have h1:=of_decide_eq_false h1
  have e0:Int.toNat ((i:Nat):Int)=i:=by omega
  have:peekM s i=byteAt s i:=if_neg (by omega)
  rw [this] at hq
  rw [e0]
  exact hq
theorem c107 {c:Int} {all:ByteArray} {H:KH} {Q:PQ} (hs:all.size≤1000) (hq:Q (.bool (specB c all)) H):Does (env Tryz.prog) 107 [.int .u8 c,.string all] H Q:=by
 refine fn107 ok ?_
 unfold vc107 vc107_L0
 refine ⟨fun m x4 s5 x6 H7=>x4=c∧s5=all∧H7=H∧∃ j:Nat,x6=j∧j≤all.size∧m=all.size-j∧specB c all=decide (c∈(bytesI all).drop j),⟨all.size,rfl,rfl,rfl,0,rfl,by omega,rfl,rfl⟩,?_⟩
 rintro m x4 s5 x6 H7 ⟨rfl,rfl,rfl,j,rfl,hj,rfl,hsp⟩
 refine ⟨fun hlt=>?_,fun hge=>?_⟩
 ·have hlt:j<s5.size:=by have:=of_decide_eq_true hlt; omega
  have e0:Int.toNat ((j:Nat):Int)=j:=by omega
  rw [bytes_drop hlt] at hsp
  rw [e0]
  refine ⟨⟨by omega,by omega⟩,fun h1=>?_,fun h1=>?_⟩
  ·have h1:byteAt s5 j=x4:=by simpa using h1
   rw [hsp,decide_eq_true (by rw [h1]; simp)] at hq
   exact hq
  ·have h1:¬ byteAt s5 j=x4:=by simpa using h1
   refine ⟨s5.size-(j+1),by omega,rfl,rfl,rfl,j+1,by rw [wrap64 (by omega) (by omega)]; omega,by omega,rfl,?_⟩
   rw [hsp,Bool.eq_iff_iff]
   simp only [decide_eq_true_eq,List.mem_cons]
   constructor
   ·rintro (q | q)
    ·exact absurd q.symm h1
    ·exact q
   ·exact .inr
 ·have hge:j=s5.size:=by have:=of_decide_eq_false hge; omega
  subst hge
  have:(bytesI s5).drop s5.size=[]:=List.drop_eq_nil_of_le (by rw [bytes_len]; exact Nat.le_refl _)
  rw [this] at hsp
  rw [hsp] at hq
  simpa using hq
theorem c95 {X H:KH} {p:Nat} {s all:ByteArray} {i:Nat} {b:Bool} {Q:PQ} (h:P3 X H p s i b) (hs:all.size≤1000) (hi:i≤1000000) (hq:∀ H',P3 X H' p s (oneM s all i).2.1 (b||(oneM s all i).2.2)→Q (.int .u8 (oneM s all i).1) H'):Does (env Tryz.prog) 95 [.pointer (some ⟨p,0,none⟩),.string all] H Q:=by
 have w1:IntKind.wrap .i64 (((i:Nat):Int)+1)=((i+1:Nat):Int):=by rw [wrap64 (by omega) (by omega)]; omega
 have w2:IntKind.wrap .i64 (((i+1:Nat):Int)+1)=((i+2:Nat):Int):=by rw [wrap64 (by omega) (by omega)]; omega
 refine fn95 ok (c47 ok h ⟨_,rfl,fun h1=>?_,fun h1=>?_⟩)
 ·have h1:peekM s i=92:=by simpa using h1
  have e:oneM s all i=(peekM s (i+1),i+2,!(specB (peekM s (i+1)) all)):=if_pos h1
  rw [e] at hq
  refine ⟨rfl,_,h.c1,rfl,stOk h.c1 rfl,h.may,?_⟩
  rw [w1]
  have h2:=h.setAt (i+1)
  refine c47 ok h2 ⟨_,rfl,c107 ok hs ⟨_,rfl,fun h3=>?_,fun h3=>?_⟩⟩
  ·have h3:specB (peekM s (i+1)) all=false:=by simpa using h3
   have h4:=h2.setBad
   refine ⟨rfl,stOk h2.c2 rfl,h2.may,?_⟩
   unfold vc95_J0
   refine ⟨rfl,_,h4.c1,rfl,stOk h4.c1 rfl,h4.may,?_⟩
   rw [w2]
   refine hq _ ?_
   have:=h4.setAt (i+2)
   simpa [h3] using this
  ·have h3:specB (peekM s (i+1)) all=true:=by simpa using h3
   unfold vc95_J1
   refine ⟨rfl,_,h2.c1,rfl,stOk h2.c1 rfl,h2.may,?_⟩
   rw [w2]
   refine hq _ ?_
   have:=h2.setAt (i+2)
   simpa [h3] using this
 ·have h1:¬ peekM s i=92:=by simpa using h1
  have e:oneM s all i=(peekM s i,i+1,decide (peekM s i<32)||(decide (126<peekM s i)||specB (peekM s i) all)):=if_neg h1
  rw [e] at hq
  have bad:(decide (peekM s i<32)||(decide (126<peekM s i)||specB (peekM s i) all))=true→vc95_J0 H p 0 Q (peekM s i):=fun hb=>by
   have h4:=h.setBad
   unfold vc95_J0
   refine ⟨rfl,_,h4.c1,rfl,stOk h4.c1 rfl,h4.may,?_⟩
   rw [w1]
   refine hq _ ?_
   have:=h4.setAt (i+1)
   rw [hb,Bool.or_true]
   exact this
  refine ⟨fun h2=>⟨rfl,stOk h.c2 rfl,h.may,bad (by rw [h2]; rfl)⟩,fun h2=>⟨fun h3=>⟨rfl,stOk h.c2 rfl,h.may,bad (by rw [h2,h3]; rfl)⟩,fun h3=>c107 ok hs ⟨_,rfl,fun h4=>⟨rfl,stOk h.c2 rfl,h.may,bad (by rw [h2,h3,h4]; rfl)⟩,fun h4=>?_⟩⟩⟩
  unfold vc95_J1
  refine ⟨rfl,_,h.c1,rfl,stOk h.c1 rfl,h.may,?_⟩
  rw [w1]
  refine hq _ ?_
  have:=h.setAt (i+1)
  rw [h2,h3,h4]
  simpa using this
end
end Va
end Go.Proofs.YtfhjkkbaghanhaaGreat
set_option linter.unusedVariables false
set_option linter.unusedSimpArgs false
namespace Go.Ew
open Go.Ev Go.Deep
theorem peek_lt {s:ByteArray} {i:Nat} (h:peekM s i≠0):i<s.size:=by
 unfold peekM at h
 split at h
 ·exact absurd rfl h
 ·omega
theorem one_ok {s all:ByteArray} {i:Nat} (h0:specB 0 all=false) (h:(oneM s all i).2.2=false):(oneM s all i).2.1≤s.size∧i<(oneM s all i).2.1:=by
 unfold oneM at h ⊢
 split
 ·rename_i hp
  rw [if_pos hp] at h
  have h:(!(specB (peekM s (i+1)) all))=false:=h
  have:i+1<s.size:=peek_lt fun q=>by rw [q,h0] at h; cases h
  exact ⟨by show i+2≤_; omega,by show i<i+2; omega⟩
 ·rename_i hp
  rw [if_neg hp] at h
  have h:(decide (peekM s i<32)||(decide (126<peekM s i)||specB (peekM s i) all))=false:=h
  have:i<s.size:=peek_lt fun q=>by rw [q] at h; cases h
  exact ⟨by show i+1≤_; omega,by show i<i+1; omega⟩
theorem one_le (s all:ByteArray) (i:Nat):i<(oneM s all i).2.1∧(oneM s all i).2.1≤i+2:=by
 unfold oneM
 split
 ·exact ⟨by show i<i+2; omega,by show i+2≤_; omega⟩
 ·exact ⟨by show i<i+1; omega,by show i+1≤_; omega⟩
def stepC (s:ByteArray) (i:Nat):Rg × Nat × Bool :=
 if (oneM s clsS i).2.2=false∧peekM s (oneM s clsS i).2.1=45 then
  (((oneM s clsS i).1,(oneM s clsS ((oneM s clsS i).2.1+1)).1),(oneM s clsS ((oneM s clsS i).2.1+1)).2.1,(oneM s clsS ((oneM s clsS i).2.1+1)).2.2||decide ((oneM s clsS ((oneM s clsS i).2.1+1)).1<(oneM s clsS i).1))
 else (((oneM s clsS i).1,(oneM s clsS i).1),(oneM s clsS i).2.1,(oneM s clsS i).2.2)
theorem step_ok {s:ByteArray} {i:Nat} (h:(stepC s i).2.2=false):(stepC s i).2.1≤s.size∧i<(stepC s i).2.1:=by
 have h0:specB 0 clsS=false:=by decide +kernel
 unfold stepC at h ⊢
 split
 ·rename_i hp
  rw [if_pos hp] at h
  have h:((oneM s clsS ((oneM s clsS i).2.1+1)).2.2||decide ((oneM s clsS ((oneM s clsS i).2.1+1)).1<(oneM s clsS i).1))=false:=h
  rw [Bool.or_eq_false_iff] at h
  have h1:=one_ok h0 h.1
  have h2:=one_le s clsS i
  exact ⟨h1.1,by show i<(oneM s clsS ((oneM s clsS i).2.1+1)).2.1; omega⟩
 ·rename_i hp
  rw [if_neg hp] at h
  exact one_ok h0 h
theorem step_le (s:ByteArray) (i:Nat):(stepC s i).2.1≤i+5:=by
 have h1:=one_le s clsS i
 have h2:=one_le s clsS ((oneM s clsS i).2.1+1)
 unfold stepC
 split
 ·show (oneM s clsS ((oneM s clsS i).2.1+1)).2.1≤_; omega
 ·show (oneM s clsS i).2.1≤_; omega
def classL (s:ByteArray):Nat→List Rg→Nat→Bool→List Rg × Nat × Bool
 | 0,l,i,b=>(l,i,b)
 | f+1,l,i,b=>if b=false∧(l=[]∨peekM s i≠93) then classL s f (l++[(stepC s i).1]) (stepC s i).2.1 (stepC s i).2.2 else (l,i,b)
def measC (s:ByteArray) (i:Nat) (b:Bool):Nat:=if b=true then 0 else s.size+1-i
end Go.Ew
set_option linter.unusedVariables false
set_option linter.unusedSimpArgs false
namespace Go.Ew
open Go.Ev Go.Deep
def Lft (s:ByteArray) (σ:RdS) (i:Nat):Option RdS:=(foldT σ (letL ((bytesI s).drop i) false)).bind finR
theorem Lft_end {s:ByteArray} {i:Nat} (h:s.size≤i) (σ:RdS):Lft s σ i=finR σ:=by
 unfold Lft
 rw [List.drop_eq_nil_of_le (by rw [bytes_len]; exact h)]
 rfl
theorem peek_byte {s:ByteArray} {i:Nat} (h:i<s.size):peekM s i=byteAt s i:=if_neg (by omega)
theorem Lft_plain {s:ByteArray} {i:Nat} (h:i<s.size) (hc:peekM s i≠92) (σ:RdS):Lft s σ i=(takeR σ (peekM s i) false).bind fun τ=>Lft s τ (i+1):=by
 unfold Lft
 rw [bytes_drop h,← peek_byte h]
 rw [letL,if_neg (fun q=>hc q.1),foldT]
 cases takeR σ (peekM s i) false<;>rfl
theorem Lft_esc {s:ByteArray} {i:Nat} (h:i+1<s.size) (hc:peekM s i=92) (σ:RdS):Lft s σ i=(takeR σ (peekM s (i+1)) true).bind fun τ=>Lft s τ (i+2):=by
 unfold Lft
 rw [bytes_drop (by omega:i<s.size),← peek_byte (by omega:i<s.size)]
 rw [letL,if_pos ⟨hc,rfl,by rw [bytes_drop h]; simp⟩]
 rw [bytes_drop h,← peek_byte h]
 rw [letL,if_neg (fun q=>by cases q.2.1),foldT]
 cases takeR σ (peekM s (i+1)) true<;>rfl
theorem Lft_last {s:ByteArray} {i:Nat} (h:i+1=s.size) (hc:peekM s i=92) (σ:RdS):Lft s σ i=(takeR σ 92 false).bind finR:=by
 unfold Lft
 rw [bytes_drop (by omega:i<s.size),← peek_byte (by omega:i<s.size)]
 rw [letL,if_neg (fun q=>q.2.2 (List.drop_eq_nil_of_le (by rw [bytes_len]; omega))),foldT,hc]
 rw [List.drop_eq_nil_of_le (by rw [bytes_len]; omega)]
 cases takeR σ 92 false<;>rfl
theorem take_outer {σ τ:RdS} {c:Int} {e:Bool} (h:takeR σ c e=some τ):σ.outer.length≤τ.outer.length+1:=by
 have hj:=join_outer σ
 have he:∀ {τ'},endR σ=some τ'→τ'.outer=σ.outer:=fun q=>end_outer q
 unfold takeR at h
 split at h
 ·rename_i l pl hcl
  unfold inClassR at h
  repeat' split at h
  all_goals first | (cases h; done) | skip
  all_goals cases h
  all_goals first | (show σ.outer.length≤σ.outer.length+1; omega) | (show σ.outer.length≤(joinR σ).outer.length+1; rw [hj]; omega)
 ·split at h
  ·cases h
   show σ.outer.length≤(joinR σ).outer.length+1
   rw [hj]; omega
  ·unfold markR at h
   repeat' split at h
   ·unfold openR at h
    split at h
    ·cases h
     show σ.outer.length≤((joinR σ).outer++_).length+1
     rw [hj,List.length_append]; omega
    ·cases h
   ·unfold closeR at h
    split at h
    ·cases h
    ·split at h
     ·cases h
     ·cases h
      show σ.outer.length≤σ.outer.dropLast.length+1
      rw [List.length_dropLast]; omega
   ·unfold openC at h
    split at h
    ·cases h; show σ.outer.length≤σ.outer.length+1; omega
    ·cases h
   ·cases h
    show σ.outer.length≤(joinR σ).outer.length+1
    rw [hj]; omega
   ·rw [he h]; omega
   all_goals first | (cases h; done) | skip
   all_goals
    unfold repeatR at h
    split at h
    ·cases h
    ·cases h; show σ.outer.length≤σ.outer.length+1; omega
theorem fin_outer {σ τ:RdS} (h:finR σ=some τ):σ.outer=[]:=by
 unfold finR at h
 split at h
 ·cases h
 ·split at h
  ·rename_i q; exact List.eq_nil_of_length_eq_zero q
  ·cases h
theorem fold_short:∀ (l:List (Int × Bool)) (σ:RdS),l.length<σ.outer.length→(foldT σ l).bind finR=none
 | [],σ,h=>by
   show finR σ=none
   cases hf:finR σ with
   | none=>rfl
   | some τ=>rw [fin_outer hf] at h; simp at h
 | (c,e) :: r,σ,h=>by
  rw [foldT]
  cases ht:takeR σ c e with
  | none=>rfl
  | some τ =>
    have:=take_outer ht
    simp only [List.length_cons] at h
    exact fold_short r τ (by omega)
theorem Lft_short {s:ByteArray} {σ:RdS} {i:Nat} (h:s.size-i<σ.outer.length):Lft s σ i=none:=by
 refine fold_short _ σ (Nat.lt_of_le_of_lt (let_len _ _) ?_)
 rw [List.length_drop,bytes_len]; exact h
theorem spec_marks (c:Int):specB c marksS=decide (c∈marksB):=rfl
theorem spec_cls (c:Int):specB c clsS=decide (c∈clsB):=rfl
theorem one_good {s all:ByteArray} {sp:List Int} {i:Nat} (hsp:∀ c,specB c all=decide (c∈sp)) (h92:(92:Int)∈sp) (hr:∀ c∈sp,32≤c∧c≤126) (h:(oneM s all i).2.2=false) :
 ∃ e,standsB (oneM s all i).1 e sp=true∧∀ σ,Lft s σ i=(takeR σ (oneM s all i).1 e).bind fun τ=>Lft s τ (oneM s all i).2.1:=by
 have h0:specB 0 all=false:=by
  rw [hsp]
  refine decide_eq_false fun q=>?_
  have:=(hr 0 q).1; omega
 have hok:=one_ok h0 h
 unfold oneM at h hok ⊢
 split
 ·rename_i hp
  rw [if_pos hp] at h hok
  have h:(!(specB (peekM s (i+1)) all))=false:=h
  have h:specB (peekM s (i+1)) all=true:=by simpa using h
  rw [hsp] at h
  have hm:=of_decide_eq_true h
  refine ⟨true,?_,fun σ=>Lft_esc (by have:i+2≤s.size:=hok.1; omega) hp σ⟩
  have:=hr _ hm
  unfold standsB
  simp [this,hm]
 ·rename_i hp
  rw [if_neg hp] at h hok
  have h:(decide (peekM s i<32)||(decide (126<peekM s i)||specB (peekM s i) all))=false:=h
  simp only [Bool.or_eq_false_iff,decide_eq_false_iff_not] at h
  refine ⟨false,?_,fun σ=>Lft_plain (by have:i+1≤s.size:=hok.1; omega) hp σ⟩
  rw [hsp] at h
  have h3:=of_decide_eq_false h.2.2
  unfold standsB
  have a1:32≤peekM s i:=by omega
  have a2:peekM s i≤126:=by omega
  simp [a1,a2,h3]
theorem one_bad {s all:ByteArray} {sp:List Int} {i:Nat} (hi:i≤s.size) (hsp:∀ c,specB c all=decide (c∈sp)) (h92:(92:Int)∈sp) (hr:∀ c∈sp,32≤c∧c≤126) (h:(oneM s all i).2.2=true) :
 (i=s.size∧∀ σ,Lft s σ i=finR σ)∨(i<s.size∧∃ c e,(e=false→c=peekM s i)∧(e=true→c∉sp)∧standsB c e sp=false∧∀ σ,takeR σ c e=none→Lft s σ i=none):=by
 rcases Nat.lt_or_ge i s.size with hlt | hge
 ·right
  refine ⟨hlt,?_⟩
  unfold oneM at h
  split at h
  ·rename_i hp
   have h:(!(specB (peekM s (i+1)) all))=true:=h
   have h:specB (peekM s (i+1)) all=false:=by simpa using h
   rw [hsp] at h
   have hm:=of_decide_eq_false h
   rcases Nat.lt_or_ge (i+1) s.size with h2 | h2
   ·refine ⟨peekM s (i+1),true,fun q=>(by cases q),fun _=>hm,?_,fun σ hn=>?_⟩
    ·unfold standsB; simp [hm]
    ·rw [Lft_esc h2 hp,hn]; rfl
   ·refine ⟨92,false,fun _=>hp.symm,fun q=>(by cases q),?_,fun σ hn=>?_⟩
    ·unfold standsB; simp [h92]
    ·rw [Lft_last (by omega) hp,hn]; rfl
  ·rename_i hp
   have h:(decide (peekM s i<32)||(decide (126<peekM s i)||specB (peekM s i) all))=true:=h
   rw [hsp] at h
   refine ⟨peekM s i,false,fun _=>rfl,fun q=>(by cases q),?_,fun σ hn=>?_⟩
   ·simp only [Bool.or_eq_true,decide_eq_true_eq] at h
    unfold standsB
    rcases h with h | h | h
    ·have:¬ 32≤peekM s i:=by omega
     simp [this]
    ·have:¬ peekM s i≤126:=by omega
     simp [this]
    ·simp [h]
   ·rw [Lft_plain hlt hp,hn]; rfl
 ·left
  exact ⟨by omega,fun σ=>Lft_end hge σ⟩
theorem marks_r:∀ c∈marksB,32≤c∧c≤126:=by decide
theorem cls_r:∀ c∈clsB,32≤c∧c≤126:=by decide
theorem cls_bad {s:ByteArray} {i:Nat} {σ:RdS} {l:List Rg} {pl:Int} (hi:i≤s.size) (hσ:σ.cls=some (l,pl)) (h:(oneM s clsS i).2.2=true) (hno:(pl≠1∨peekM s i≠45)∧(wholeC l pl=false∨peekM s i≠93)):Lft s σ i=none:=by
 rcases one_bad (sp:=clsB) hi spec_cls (by decide) cls_r h with ⟨_,q⟩ | ⟨hlt,c,e,q1,q2,q3,q4⟩
 ·rw [q]; unfold finR; rw [hσ]
 ·refine q4 σ ?_
  unfold takeR
  rw [hσ]
  show inClassR σ l pl c e=none
  unfold inClassR
  rw [if_neg (by rw [q3]; decide)]
  cases e with
  | true =>
    have hc:=q2 rfl
    rw [if_neg (fun x=>hc (by rw [x]; decide)),if_neg (fun x=>hc (by rw [x]; decide))]
  | false =>
    have hc:=q1 rfl
    rw [hc]
    split
    ·rename_i h45
     rw [if_neg (fun x=>hno.1.elim (fun y=>y x) fun y=>y h45)]
    ·split
     ·rename_i h93
      rw [if_neg (fun x=>hno.2.elim (fun y=>by rw [y] at x; cases x) fun y=>y h93)]
     ·rfl
theorem cls_good {s:ByteArray} {i:Nat} {σ:RdS} {l:List Rg} {pl:Int} (hσ:σ.cls=some (l,pl)) (h:(oneM s clsS i).2.2=false):Lft s σ i=(match addC l pl (oneM s clsS i).1 with
 | some x=>some { σ with cls:=some x }
 | none=>none:Option RdS).bind fun τ=>Lft s τ (oneM s clsS i).2.1:=by
 obtain ⟨e,h1,h2⟩:=one_good (sp:=clsB) spec_cls (by decide) cls_r h
 rw [h2]
 have:takeR σ (oneM s clsS i).1 e=inClassR σ l pl (oneM s clsS i).1 e:=by unfold takeR; rw [hσ]
 rw [this]
 unfold inClassR
 rw [if_pos h1]
 cases addC l pl (oneM s clsS i).1<;>rfl
theorem step_is {s:ByteArray} {i:Nat} {σ:RdS} {l:List Rg} {pl:Int} (hi:i≤s.size) (hσ:σ.cls=some (l,pl)) (hp:pl=0∨(pl=1∧peekM s i≠45)) (hx:l=[]∨peekM s i≠93) :
 ((stepC s i).2.2=true→Lft s σ i=none)∧((stepC s i).2.2=false→∃ pl',(pl'=0∨(pl'=1∧peekM s (stepC s i).2.1≠45))∧Lft s σ i=Lft s { σ with cls:=some (l++[(stepC s i).1],pl') } (stepC s i).2.1):=by
 have hno:(pl≠1∨peekM s i≠45)∧(wholeC l pl=false∨peekM s i≠93):=by
  refine ⟨?_,?_⟩
  ·rcases hp with q | q
   ·left; omega
   ·right; exact q.2
  ·rcases hx with q | q
   ·left; rw [q]; rfl
   ·right; exact q
 have h2:pl≠2:=by rcases hp with q | q<;>omega
 cases ho:(oneM s clsS i).2.2 with
 | true =>
   have hs:(stepC s i)=(((oneM s clsS i).1,(oneM s clsS i).1),(oneM s clsS i).2.1,(oneM s clsS i).2.2):=if_neg (fun q=>by rw [ho] at q; cases q.1)
   rw [hs]
   refine ⟨fun _=>cls_bad hi hσ ho hno,fun q=>?_⟩
   have q:(oneM s clsS i).2.2=false:=q
   rw [ho] at q; cases q
 | false =>
   have g1:=cls_good (i:=i) hσ ho
   have hok:=one_ok (all:=clsS) (i:=i) (s:=s) (by decide +kernel) ho
   have ha:addC l pl (oneM s clsS i).1=some (l++[((oneM s clsS i).1,(oneM s clsS i).1)],1):=if_pos h2
   rw [ha] at g1
   have g1:Lft s σ i=Lft s { σ with cls:=some (l++[((oneM s clsS i).1,(oneM s clsS i).1)],1) } (oneM s clsS i).2.1:=g1
   by_cases hd:peekM s (oneM s clsS i).2.1=45
   ·have hs:(stepC s i)=(((oneM s clsS i).1,(oneM s clsS ((oneM s clsS i).2.1+1)).1),(oneM s clsS ((oneM s clsS i).2.1+1)).2.1,(oneM s clsS ((oneM s clsS i).2.1+1)).2.2||decide ((oneM s clsS ((oneM s clsS i).2.1+1)).1<(oneM s clsS i).1)):=if_pos ⟨ho,hd⟩
    have hlt:(oneM s clsS i).2.1<s.size:=peek_lt (by rw [hd]; decide)
    have g2:=Lft_plain hlt (by rw [hd]; decide) { σ with cls:=some (l++[((oneM s clsS i).1,(oneM s clsS i).1)],1) }
    rw [hd] at g2
    have ht:takeR { σ with cls:=some (l++[((oneM s clsS i).1,(oneM s clsS i).1)],1) } 45 false=some { σ with cls:=some (l++[((oneM s clsS i).1,(oneM s clsS i).1)],2) }:=rfl
    rw [ht] at g2
    have g2:Lft s { σ with cls:=some (l++[((oneM s clsS i).1,(oneM s clsS i).1)],1) } (oneM s clsS i).2.1=Lft s { σ with cls:=some (l++[((oneM s clsS i).1,(oneM s clsS i).1)],2) } ((oneM s clsS i).2.1+1):=g2
    have hdc:addC (l++[((oneM s clsS i).1,(oneM s clsS i).1)]) 2 (oneM s clsS ((oneM s clsS i).2.1+1)).1=if (oneM s clsS ((oneM s clsS i).2.1+1)).1<(oneM s clsS i).1 then none else some (l++[((oneM s clsS i).1,(oneM s clsS ((oneM s clsS i).2.1+1)).1)],0):=by
     unfold addC
     rw [if_neg (by decide)]
     simp
    rw [hs]
    cases ho2:(oneM s clsS ((oneM s clsS i).2.1+1)).2.2 with
    | true =>
      refine ⟨fun _=>?_,fun q=>?_⟩
      ·rw [g1,g2]
       exact cls_bad (by omega) rfl ho2 ⟨.inl (by decide),.inl (by unfold wholeC; simp)⟩
      ·simp at q
    | false =>
      have g3:=cls_good (i:=(oneM s clsS i).2.1+1) (σ:={ σ with cls:=some (l++[((oneM s clsS i).1,(oneM s clsS i).1)],2) }) rfl ho2
      rw [hdc] at g3
      refine ⟨fun q=>?_,fun q=>?_⟩
      ·have q:(oneM s clsS ((oneM s clsS i).2.1+1)).1<(oneM s clsS i).1:=by simpa using q
       rw [if_pos q] at g3
       rw [g1,g2,g3]; rfl
      ·have q:¬ (oneM s clsS ((oneM s clsS i).2.1+1)).1<(oneM s clsS i).1:=by simpa using q
       rw [if_neg q] at g3
       exact ⟨0,.inl rfl,by rw [g1,g2,g3]; rfl⟩
   ·have hs:(stepC s i)=(((oneM s clsS i).1,(oneM s clsS i).1),(oneM s clsS i).2.1,(oneM s clsS i).2.2):=if_neg (fun q=>hd q.2)
    rw [hs]
    refine ⟨fun q=>?_,fun _=>⟨1,.inr ⟨rfl,hd⟩,g1⟩⟩
    have q:(oneM s clsS i).2.2=true:=q
    rw [ho] at q; cases q
theorem class_is (s:ByteArray):∀ (f:Nat) (l:List Rg) (i:Nat) (σ:RdS) (pl:Int),i≤s.size→s.size+1-i≤f→σ.cls=some (l,pl)→(pl=0∨(pl=1∧peekM s i≠45))→
 ((classL s f l i false).2.2=true→Lft s σ i=none)∧
 ((classL s f l i false).2.2=false→(classL s f l i false).2.1<s.size∧Lft s σ i=Lft s (addClassR { σ with cls:=none } (classL s f l i false).1) ((classL s f l i false).2.1+1))∧
 i≤(classL s f l i false).2.1∧(classL s f l i false).2.1≤s.size+5∧(classL s f l i false).1.length≤l.length+((classL s f l i false).2.1-i):=by
 intro f
 induction f with
 | zero=>intro l i σ pl hi hf; omega
 | succ f ih =>
   intro l i σ pl hi hf hσ hp
   rw [classL]
   split
   ·rename_i hc
    have hx:l=[]∨peekM s i≠93:=hc.2
    have h1:=step_is hi hσ hp hx
    have hle:=step_le s i
    cases hs:(stepC s i).2.2 with
    | true =>
      have hlt:i<(stepC s i).2.1:=by
       have h1:=one_le s clsS i
       have h2:=one_le s clsS ((oneM s clsS i).2.1+1)
       unfold stepC
       split
       ·show i<(oneM s clsS ((oneM s clsS i).2.1+1)).2.1; omega
       ·show i<(oneM s clsS i).2.1; omega
      have:classL s f (l++[(stepC s i).1]) (stepC s i).2.1 true=(l++[(stepC s i).1],(stepC s i).2.1,true):=by
       cases f with
       | zero=>rfl
       | succ f=>rw [classL,if_neg (fun q=>by cases q.1)]
      rw [this]
      refine ⟨fun _=>h1.1 hs,fun q=>(by cases q),by show i≤(stepC s i).2.1; omega,by show (stepC s i).2.1≤_; omega,?_⟩
      show (l++[(stepC s i).1]).length≤l.length+((stepC s i).2.1-i)
      rw [List.length_append]; simp only [List.length_cons,List.length_nil]; omega
    | false =>
      obtain ⟨pl',q1,q2⟩:=h1.2 hs
      have hok:=step_ok hs
      obtain ⟨r1,r2,r3,r4,r5⟩:=ih (l++[(stepC s i).1]) (stepC s i).2.1 { σ with cls:=some (l++[(stepC s i).1],pl') } pl' hok.1 (by omega) rfl q1
      refine ⟨fun q=>by rw [q2]; exact r1 q,fun q=>⟨(r2 q).1,by rw [q2]; exact (r2 q).2⟩,by omega,r4,?_⟩
      rw [List.length_append] at r5
      simp only [List.length_cons,List.length_nil] at r5
      omega
   ·rename_i hc
    have hx:l≠[]∧peekM s i=93:=by
     refine ⟨fun q=>hc ⟨rfl,.inl q⟩,?_⟩
     apply Classical.byContradiction
     intro q
     exact hc ⟨rfl,.inr q⟩
    have hlt:i<s.size:=peek_lt (by rw [hx.2]; decide)
    refine ⟨fun q=>(by cases q),fun _=>⟨hlt,?_⟩,Nat.le_refl _,by show i≤_; omega,by show l.length≤_; omega⟩
    rw [Lft_plain hlt (by rw [hx.2]; decide),hx.2]
    have ht:takeR σ 93 false=some { addClassR σ l with cls:=none }:=by
     unfold takeR
     rw [hσ]
     show inClassR σ l pl 93 false=_
     unfold inClassR
     rw [if_neg (by decide),if_neg (by decide),if_pos rfl,if_pos]
     unfold wholeC
     have h1:0<l.length:=List.length_pos_iff.2 hx.1
     have h2:pl≠2:=by rcases hp with q | q<;>omega
     simp [h1,h2]
    rw [ht]
    show Lft s _ (i+1)=Lft s _ (i+1)
    congr 1
    unfold addClassR joinR putR
    split<;>rfl
end Go.Ew
