import Derived.Test.YtfhjkkbaghanhaaGreatEwLx1
set_option linter.unusedVariables false
set_option linter.unusedSimpArgs false
namespace Go.Ew
open Go.Ev Go.Deep
def fstM (g:Nat→Int) (L:Nat) (w:ByteArray):Int × Int:=if (lgR g L w).2.2=true then ((lgR g L w).1,(lgR g L w).2.1) else (-1,1)
def fromB (s:ByteArray) (i:Nat):ByteArray:=strCut s ((i:Nat):Int) ((s.size:Nat):Int)
theorem fromB_size {s:ByteArray} {i:Nat} (h:i≤s.size):(fromB s i).size=s.size-i:=by
 unfold fromB strCut
 simp only [Int.toNat_natCast,ByteArray.size_extract]
 omega
inductive Tks (F:Nat→Int × Int) (N:Nat):Nat→List (Int × Nat × Int)→Prop where
 | nil:Tks F N N []
 | cons {i n:Nat} {r:List (Int × Nat × Int)} (h1:i<N) (h2:(F i).2=((n:Nat):Int)) (h3:1≤n) (h4:i+n≤N) (hr:Tks F N (i+n) r):Tks F N i (((F i).1,i,((n:Nat):Int)) :: r)
theorem Tks.ex {F:Nat→Int × Int} {N:Nat} (hF:∀ i,i<N→∃ n:Nat,(F i).2=((n:Nat):Int)∧1≤n∧i+n≤N):∀ (m i:Nat),N-i=m→i≤N→∃ r,Tks F N i r:=by
 intro m
 induction m using Nat.strongRecOn with
 | ind m ih =>
   intro i hm hi
   by_cases h:i=N
   ·subst h; exact ⟨[],.nil⟩
   ·obtain ⟨n,h1,h2,h3⟩:=hF i (by omega)
    obtain ⟨r,hr⟩:=ih (N-(i+n)) (by omega) (i+n) rfl h3
    exact ⟨_,.cons (by omega) h1 h2 h3 hr⟩
theorem Tks.len {F:Nat→Int × Int} {N:Nat}:∀ {i:Nat} {r:List (Int × Nat × Int)},Tks F N i r→r.length+i≤N
 | _,_,.nil=>by simp
 | i,_,.cons h1 h2 h3 h4 hr=>by
   have:=hr.len
   simp only [List.length_cons]
   omega
def tkC (l:List (Int × Nat × Int)):List Value:=l.flatMap fun x=>[.int .i64 x.1,.int .i64 ((x.2.1:Nat):Int),.int .i64 x.2.2]
theorem tkC_app (a b:List (Int × Nat × Int)):tkC (a++b)=tkC a++tkC b:=by simp [tkC]
abbrev TK3:TI:=⟨3,24,true,3,0,0,[(0,1),(1,1),(2,1)],[.int .i64 0,.int .i64 0,.int .i64 0]⟩
end Go.Ew
namespace Go.Proofs.YtfhjkkbaghanhaaGreat
open Go.Ev Go.Ew
namespace Va
section
variable (ok : EnvOk (env Tryz.prog))
include ok
theorem c45 {a:OA} {L c:Nat} {g:Nat→Int} {w:ByteArray} {H:KH} {Q:PQ} (hI:IC H a (L*257) g) (hs:w.size≤1000000)
 (hq:Q (.agg #[.int .i64 (fstM g L w).1,.int .i64 0,.int .i64 (fstM g L w).2]) H):Does (env Tryz.prog) 45 [.slice a L c,.string w] H Q:=by
 refine fn45 ok (c68 ok hI (by omega) ⟨_,_,_,rfl,fun q=>?_,fun q=>?_⟩)
 ·have q:(lgR g L w).2.2=false:=by simpa using q
  unfold fstM at hq
  rw [if_neg (by rw [q]; simp)] at hq
  exact hq
 ·have q:(lgR g L w).2.2=true:=by simpa using q
  unfold fstM at hq
  rw [if_pos q] at hq
  exact hq
theorem c44 {s:ByteArray} {g:Nat→Int} {L:Nat} {l kb ko k1b k1o:Nat} {H:KH} {Q:PQ} (Inv:List (Int × Nat × Int)→KH→Prop) (hs:s.size≤1000000)
 (hcell:∀ r H1,Inv r H1→ld H1 ⟨kb,ko,none⟩ [.string s]∧∃ ra rc,ld H1 ⟨k1b,k1o,none⟩ [.slice ra L rc]∧IC H1 ra (L*257) g)
 (hstep:∀ k i n r H1,Inv ((k,i,n) :: r) H1→DoesR (env Tryz.prog) l [.agg #[.int .i64 k,.int .i64 ((i:Nat):Int),.int .i64 n]] H1 fun v H2=>(v = .bool true∧Inv r H2)∨(v = .bool false∧Q (.tuple #[]) H2))
 (hend:∀ H1,Inv [] H1→Q (.tuple #[]) H1) {r0:List (Int × Nat × Int)} (hr:Tks (fun i=>fstM g L (fromB s i)) s.size 0 r0) (h0:Inv r0 H) :
 Does (env Tryz.prog) 44 [.func (.yield l) #[] #[],.pointer (some ⟨kb,ko,none⟩),.pointer (some ⟨k1b,k1o,none⟩)] H Q:=by
 refine fn44 ok ?_
 unfold vc44 vc44_L1
 refine ⟨fun m n4 n5 n6 n7 n8 x9 H10=>n4=l∧n5=kb∧n6=ko∧n7=k1b∧n8=k1o∧∃ (i:Nat) (r:List (Int × Nat × Int)),x9=i∧i≤s.size∧m=s.size-i∧Tks (fun i=>fstM g L (fromB s i)) s.size i r∧Inv r H10,⟨s.size,rfl,rfl,rfl,rfl,rfl,rfl,rfl,0,r0,rfl,by omega,rfl,hr,h0⟩,?_⟩
 rintro m n4 n5 n6 n7 n8 x9 H10 ⟨rfl,rfl,rfl,rfl,rfl,i,r,rfl,hi,rfl,ht,hinv⟩
 obtain ⟨hc,ra,rc,hrc,hI⟩:=hcell _ _ hinv
 refine ⟨s,hc,fun hlt=>?_,fun hge=>?_⟩
 ·have hlt:i<s.size:=by have:=of_decide_eq_true hlt; omega
  cases ht with
  | nil=>omega
  | cons h1 h2 h3 h4 htr =>
    rename_i n r
    refine ⟨trivial,ra,_,rc,hrc,s,hc,⟨by omega,by omega,by omega⟩,c45 ok hI (by have:=fromB_size (s:=s) (i:=i) (by omega); unfold fromB at this; omega) ⟨_,_,_,rfl,trivial,trivial,?_⟩⟩
    have h2:(fstM g L (strCut s ((i:Nat):Int) ((s.size:Nat):Int))).2=((n:Nat):Int):=h2
    rw [h2]
    refine (hstep _ _ _ _ _ hinv).post fun v H3 hv=>?_
    rcases hv with ⟨rfl,hv⟩ | ⟨rfl,hv⟩
    ·exact ⟨true,rfl,fun h=>(by cases h),fun _=>⟨s.size-(i+n),by omega,rfl,rfl,rfl,rfl,rfl,rfl,rfl,i+n,r,by rw [wrap64 (by omega) (by omega)]; omega,h4,rfl,htr,hv⟩⟩
    ·exact ⟨false,rfl,fun _=>hv,fun h=>by cases h⟩
 ·have hge:i=s.size:=by have:=of_decide_eq_false hge; omega
  subst hge
  cases ht with
  | nil=>exact hend _ hinv
  | cons h1=>omega
theorem c29 {a:OA} {L c:Nat} {s:ByteArray} {H:KH} {Q:PQ} (hq:∀ n1 n2,H n1=none→(H.new n1 (mkEnt [.slice a L c] 0)) n2=none→Q (.func (.func 44) #[] #[.pointer (some ⟨n2,0,none⟩),.pointer (some ⟨n1,0,none⟩)]) ((H.new n1 (mkEnt [.slice a L c] 0)).new n2 (mkEnt [.string s] 0))):Does (env Tryz.prog) 29 [.slice a L c,.string s] H Q:=fn29 ok fun n1 h1 n2 h2=>hq n1 n2 h1 h2
theorem c17 {a:OA} {L c:Nat} {g:Nat→Int} {s:ByteArray} {H:KH} {Q:PQ} (hI:IC H a (L*257) g) (hs:s.size≤100000)
 (hF:∀ i,i<s.size→∃ n:Nat,(fstM g L (fromB s i)).2=((n:Nat):Int)∧1≤n∧i+n≤s.size)
 (hq:∀ l a' c' ex H',Tks (fun i=>fstM g L (fromB s i)) s.size 0 l→Le H H'→Gr H' 3 a' l.length c' (tkC l) ex→Q (.slice a' l.length c') H'):Does (env Tryz.prog) 17 [.slice a L c,.string s] H Q:=by
 obtain ⟨all,hall⟩:=Tks.ex hF (s.size-0) 0 rfl (by omega)
 have hlen:=hall.len
 refine fn17 ok fun n1 h1=>c29 ok fun ns nt hns hnt=>⟨_,[.pointer (some ⟨nt,0,none⟩),.pointer (some ⟨ns,0,none⟩)],rfl,⟨(by kernel_rfl)⟩,fun n6 L7 h6 hR=>?_⟩
 have ns1:ns≠n1:=fun z=>by subst z; simp [KH.new] at hns
 have nts:nt≠ns:=fun z=>by subst z; simp [KH.new] at hnt
 have nt1:nt≠n1:=fun z=>by subst z; simp [KH.new,ns1.symm] at hnt
 have n6t:n6≠nt:=fun z=>by subst z; simp [KH.new] at h6
 have n6s:n6≠ns:=fun z=>by subst z; simp [KH.new,nts.symm] at h6
 have n61:n6≠n1:=fun z=>by subst z; simp [KH.new,nt1.symm,ns1.symm] at h6
 have hHs:H ns=none:=by simpa [KH.new,ns1] using hns
 have hHt:H nt=none:=by simpa [KH.new,nts,nt1] using hnt
 have hH6:H n6=none:=by simpa [KH.new,n6t,n6s,n61] using h6
 let Base:KH:=(H.new ns (mkEnt [.slice a L c] 0)).new nt (mkEnt [.string s] 0)
 have hBt:(H.new ns (mkEnt [.slice a L c] 0)) nt=none:=by simp only [KH.new]; rw [if_neg nts]; exact hHt
 have hBase:Le H Base:=(Le.new hHs).trans (Le.new hBt)
 have hB1:Base n1=none:=by simp only [Base,KH.new]; rw [if_neg nt1.symm,if_neg ns1.symm]; exact h1
 have hB6:Base n6=none:=by simp only [Base,KH.new]; rw [if_neg n6t,if_neg n6s]; exact hH6
 have hBS:Base ns=some (mkEnt [.slice a L c] 0):=by simp only [Base,KH.new]; rw [if_neg nts.symm]; exact if_pos trivial
 have hBT:Base nt=some (mkEnt [.string s] 0):=if_pos rfl
 have lits:∀ {cs:List Value} {K:KH} {n:Nat},K n=some (mkEnt cs 0)→ld K ⟨n,0,none⟩ cs:=fun {cs K n} hk=>⟨rfl,_,hk,rd_mk cs 0⟩
 let Inv:List (Int × Nat × Int)→KH→Prop:=fun r H1=>H1 n6=some (lpE L7 0 none)∧∃ (dn:List (Int × Nat × Int)) (am:OA) (cm:Nat) (ex:List Value),(∃ e,H1 n1=some e∧wrB e=true∧rd e.cells 0 1=some [.slice am dn.length cm])∧Gr H1 3 am dn.length cm (tkC dn) ex∧Le Base H1∧(∀ b,blk am=some b→Base b=none∧b≠n1∧b≠n6)∧dn++r=all
 refine c44 ok (s:=s) (g:=g) (L:=L) Inv (by omega) (fun r H1 hi=>?_) (fun k i n r H1 hi=>?_) (fun H1 hi=>?_) hall ?_
 ·obtain ⟨g1,dn,am,cm,ex,g2,g3,g4,g5,g6⟩:=hi
  exact ⟨lits (g4 _ _ hBT),a,c,lits (g4 _ _ hBS),hI.mono (hBase.trans g4)⟩
 ·obtain ⟨g1,dn,am,cm,ex,⟨e,e1,e2,e3⟩,g3,g4,g5,g6⟩:=hi
  have hdl:dn.length+1≤s.size:=by
   have:=congrArg List.length g6
   simp only [List.length_append,List.length_cons] at this
   omega
  have hdel:∀ q e,q≠n6→H1 q=some e→(H1.del n6) q=some e:=fun q e z1 z2=>by simp only [KH.del]; rw [if_neg z1]; exact z2
  have hc1:ld (H1.del n6) ⟨n1,0,none⟩ [.slice am dn.length cm]:=⟨rfl,e,hdel _ _ n61.symm e1,e3⟩
  refine hR k ((i:Nat):Int) n H1 _ g1 ⟨am,_,cm,hc1,fun n16 h16 n17 h17=>?_⟩
  have l16:=Le.new (e:=mkEnt [Value.int .i64 k,.int .i64 ((i:Nat):Int),.int .i64 n] 0) h16
  have hG:Gr ((H1.del n6).new n16 (mkEnt [Value.int .i64 k,.int .i64 ((i:Nat):Int),.int .i64 n] 0)) 3 am dn.length cm (tkC dn) ex:=g3.agree fun q e z1 z2=>l16 q e (hdel q e (g5 q z1).2.2 z2)
  obtain ⟨a',H',ex',f1,f2,_,f4,f5⟩:=hG.append (ti:=TK3) (new:=[.int .i64 k,.int .i64 ((i:Nat):Int),.int .i64 n]) h17 rfl (by omega) (by decide) (by decide)
  have h1':H' n1=some e:=f4 n1 e (l16 _ _ (hdel _ _ n61.symm e1)) fun z=>(g5 n1 z).2.1 rfl
  have hc1':ld H' ⟨n1,0,none⟩ [.slice am dn.length cm]:=⟨rfl,e,h1',e3⟩
  refine ⟨1,_,knew_of (lit_kold (if_pos rfl) rfl),a',_,unkU,H',f1,stOk hc1' rfl,⟨⟨e,h1',e2⟩⟩,fun h6'=>.inl ⟨rfl,if_pos rfl,dn++[(k,i,n)],a',unkU,ex',⟨⟨wr e.cells 0 [.slice a' (dn.length+1) unkU],e.len,e.unk,none⟩,?_,wrB_keep e2,?_⟩,?_,?_,fun b hb=>?_,by rw [List.append_assoc]; exact g6⟩⟩
  ·simp only [KH.new]
   rw [if_neg n61.symm]
   simp only [KH.put,if_true,h1',Option.map_some]
  ·have hl:(dn++[(k,i,n)]).length=dn.length+1:=by simp
   rw [hl]
   have:=rdWr (e:=e.cells) (N:=1) (o:=0) (xs:=[]) (ys:=[.slice am dn.length cm]) (zs:=[]) (vs:=[.slice a' (dn.length+1) unkU]) (by simpa using e3) rfl rfl
   simpa using this
  ·have hl:(dn++[(k,i,n)]).length=dn.length+1:=by simp
   rw [hl,tkC_app]
   refine f2.agree fun q e z1 z2=>?_
   have q1:q≠n1:=fun z=>by
    rcases f5 q z1 with y | y
    ·exact (g5 q y).2.1 z
    ·have hb0:(H1.del n6) q=none:=by rw [y]; exact l16.none h17
     rw [z,hdel _ _ n61.symm e1] at hb0; cases hb0
   have q6:q≠n6:=fun z=>by
    have:(H'.put ⟨n1,0,none⟩ [.slice a' (dn.length+1) unkU]) q=some e:=put_ne q1 z2
    rw [z,h6'] at this; cases this
   simp only [KH.new]
   rw [if_neg q6]
   exact put_ne q1 z2
  ·intro q e' z
   have q1:q≠n1:=fun y=>by rw [y,hB1] at z; cases z
   have q6:q≠n6:=fun y=>by rw [y,hB6] at z; cases z
   simp only [KH.new]
   rw [if_neg q6]
   exact put_ne q1 (f4 q e' (l16 q e' (hdel q e' q6 (g4 q e' z))) fun y=>by rw [(g5 q y).1] at z; cases z)
  ·rcases f5 b hb with y | y
   ·exact g5 b y
   ·subst y
    have hb0:(H1.del n6) b=none:=l16.none h17
    refine ⟨?_,fun z=>?_,fun z=>?_⟩
    ·rcases none_or Base b with q | ⟨e',q⟩
     ·exact q
     ·have q6:b≠n6:=fun y=>by rw [y,hB6] at q; cases q
      rw [hdel b e' q6 (g4 b e' q)] at hb0; cases hb0
    ·rw [z,hdel _ _ n61.symm e1] at hb0; cases hb0
    ·obtain ⟨e',he'⟩:=f2.at' hb
     have q1:b≠n1:=fun z=>by rw [z,hdel _ _ n61.symm e1] at hb0; cases hb0
     have:(H'.put ⟨n1,0,none⟩ [.slice a' (dn.length+1) unkU]) b=some e':=put_ne q1 he'
     rw [z,h6'] at this; cases this
 ·obtain ⟨g1,dn,am,cm,ex,⟨e,e1,e2,e3⟩,g3,g4,g5,g6⟩:=hi
  rw [List.append_nil] at g6
  subst g6
  have hdel:∀ q e,q≠n6→H1 q=some e→(H1.del n6) q=some e:=fun q e z1 z2=>by simp only [KH.del]; rw [if_neg z1]; exact z2
  refine .inl ⟨g1,am,_,cm,⟨rfl,e,hdel _ _ n61.symm e1,e3⟩,hq dn am cm ex _ hall (fun q e z=>hdel q e (fun y=>by rw [y,hH6] at z; cases z) (g4 q e (hBase q e z))) (g3.agree fun q e z1 z2=>hdel q e (g5 q z1).2.2 z2)⟩
 ·have hH4:∀ q e,q≠n6→(((H.new n1 (mkEnt [.slice none 0 0] 0)).new ns (mkEnt [.slice a L c] 0)).new nt (mkEnt [.string s] 0)) q=some e→((((H.new n1 (mkEnt [.slice none 0 0] 0)).new ns (mkEnt [.slice a L c] 0)).new nt (mkEnt [.string s] 0)).new n6 (lpE L7 0 none)) q=some e:=fun q e z1 z2=>by simp only [KH.new] at z2 ⊢; rw [if_neg z1]; exact z2
  refine ⟨if_pos rfl,[],none,0,[],⟨_,hH4 n1 _ n61.symm (by simp only [KH.new]; rw [if_neg nt1.symm,if_neg ns1.symm]; exact if_pos trivial),rfl,rd_mk [.slice none 0 0] 0⟩,.nil,fun q e z=>?_,(fun b q=>by cases q),rfl⟩
  have q1:q≠n1:=fun y=>by rw [y,hB1] at z; cases z
  have q6:q≠n6:=fun y=>by rw [y,hB6] at z; cases z
  refine hH4 q e q6 ?_
  simp only [Base,KH.new] at z ⊢
  by_cases a1:q=nt
  ·rw [if_pos a1] at z ⊢; exact z
  ·rw [if_neg a1] at z ⊢
   by_cases a2:q=ns
   ·rw [if_pos a2] at z ⊢; exact z
   ·rw [if_neg a2] at z ⊢
    rw [if_neg q1]; exact z
end
end Va
end Go.Proofs.YtfhjkkbaghanhaaGreat
