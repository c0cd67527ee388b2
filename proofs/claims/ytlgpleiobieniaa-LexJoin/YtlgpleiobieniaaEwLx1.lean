import Derived.Test.YtlgpleiobieniaaEwDk9
import Derived.Test.YtlgpleiobieniaaEwVc8
set_option linter.unusedVariables false
set_option linter.unusedSimpArgs false
namespace Go.Ew
open Go.Ev Go.Deep
def ParsE (rs:List ByteArray) (pats:List (List It)):Prop:=rs.map parseR=pats.map some
theorem ParsE.len {rs:List ByteArray} {pats:List (List It)} (h:ParsE rs pats):pats.length=rs.length:=by
 have:=congrArg List.length h
 simpa using this.symm
theorem ParsE.par {rs:List ByteArray} {pats:List (List It)} (h:ParsE rs pats):∀ l∈pats,∃ s,parseR s=some l:=fun l hl=>by
 have:some l∈rs.map parseR:=by rw [h]; exact List.mem_map.2 ⟨l,hl,rfl⟩
 obtain ⟨s,_,hs⟩:=List.mem_map.1 this
 exact ⟨s,hs⟩
theorem some_list:∀ {p q:List (List It)},p.map some=q.map some→p=q
 | [],[],_=>rfl
 | [],b :: q,h=>by cases h
 | a :: p,[],h=>by cases h
 | a :: p,b :: q,h=>by
   simp only [List.map_cons,List.cons.injEq,Option.some.injEq] at h
   rw [h.1,some_list h.2]
theorem ParsE.same {rs:List ByteArray} {p q:List (List It)} (h:ParsE rs p) (g:ParsE rs q):p=q:=some_list (by rw [← h,← g])
theorem ParsE.snoc {rs:List ByteArray} {pats:List (List It)} {k:Nat} {l:List It} (hk:k<rs.length) (h:ParsE (rs.take k) pats) (hl:parseR rs[k]=some l):ParsE (rs.take (k+1)) (pats++[l]):=by
 unfold ParsE at *
 rw [List.take_succ_eq_append_getElem hk,List.map_append,h,List.map_append]
 simp [hl]
theorem ParsE.no {rs:List ByteArray} {pats:List (List It)} (h:ParsE rs pats):¬ ∃ s∈rs,parseR s=none:=fun ⟨s,hs,hn⟩=>by
 have:parseR s∈pats.map some:=by rw [← h]; exact List.mem_map.2 ⟨s,hs,rfl⟩
 rw [hn] at this
 simp at this
theorem PtC.snoc {X:KH} {l:List It} {a:OA} {c:Nat} (hi:ItR X l a) (hso:SlOk X 2 a l.length c):∀ {ps:List (List It)} {ds:List Value},PtC X ps ds→PtC X (ps++[l]) (ds++[.slice a l.length c])
 | [],ds,h=>by
   have h:ds=[]:=h
   subst h
   exact ⟨a,c,[],rfl,⟨hi,hso⟩,rfl⟩
 | q :: ps,ds,⟨a9,c14,es,g1,g2,g3⟩=>⟨a9,c14,es++[.slice a l.length c],by rw [g1]; rfl,g2,PtC.snoc hi hso g3⟩
theorem TkC.get3:∀ {r:List ByteArray} {cs:List Value} {k:Nat} {s:ByteArray},TkC r cs→r[k]? = some s→∃ nm b,(cs.drop (k*3)).take 3=[.string nm,.string s,.bool b]
 | [],cs,k,s,h,hk=>by simp at hk
 | x :: r,cs,0,s,⟨nm',b',ds,h1,h2⟩,hk=>by
   have hk:x=s:=by simpa using hk
   subst hk; subst h1; exact ⟨nm',b',rfl⟩
 | x :: r,cs,k+1,s,⟨nm',b',ds,h1,h2⟩,hk=>by
   subst h1
   have hk:r[k]? = some s:=by simpa using hk
   obtain ⟨nm,b,h⟩:=TkC.get3 h2 hk
   refine ⟨nm,b,?_⟩
   have e:(k+1)*3=k*3+3:=by omega
   rw [e]
   simpa using h
end Go.Ew
namespace Go.Proofs.Ytlgpleiobieniaa
open Go.Ev Go.Ew
namespace Va
section
variable (ok : EnvOk (env Try.prog))
include ok
theorem c17 {rs:List ByteArray} {a:OA} {c:Nat} {H:KH} {Q:PQ} (hk:TkR H rs a) (hs:rs.length≤1000)
 (hq:∀ (pats:List (List It)) a' c' X H' cs,ParsE rs pats→Le H X→Le X H'→Gr H' 1 a' pats.length c' cs []→PtC X pats cs→(∀ b,blk a'=some b→X b=none)→Q (.tuple #[.slice a' pats.length c',.bool true]) H')
 (hno:(∃ s∈rs,parseR s=none)→∀ H',Le H H'→Q (.tuple #[.slice none 0 0,.bool false]) H'):Does (env Try.prog) 17 [.slice a rs.length c] H Q:=by
 obtain ⟨tc,tk,tt⟩:=hk
 refine fn17 ok ?_
 unfold vc17 vc17_L2
 refine ⟨fun n3 a7 n8 n9 a4 n5 n6 x11 x10 H11=>a4=a∧n5=rs.length∧x11=(rs.length:Nat)∧∃ (k:Nat) (pats:List (List It)) (cs:List Value) (X:KH),x10=k∧k≤rs.length∧n3=rs.length-k∧n8=pats.length∧pats.length=k∧ParsE (rs.take k) pats∧Le H X∧Le X H11∧Gr H11 1 a7 n8 n9 cs []∧PtC X pats cs∧∀ b,blk a7=some b→X b=none,
  ⟨rs.length,rfl,rfl,rfl,0,[],[],H,rfl,by omega,rfl,rfl,rfl,rfl,Le.refl _,Le.refl _,.nil,rfl,fun b q=>by cases q⟩,?_⟩
 rintro n3 a7 n8 n9 a4 n5 n6 x11 x10 H11 ⟨rfl,rfl,rfl,k,pats,cs,X,rfl,hk,rfl,rfl,hpk,hpp,hHX,hX,hG,hP,hout⟩
 refine ⟨fun hlt=>?_,fun hge=>?_⟩
 ·have hlt:k<rs.length:=by have:=of_decide_eq_true hlt; omega
  have e0:Int.toNat ((k:Nat):Int)=k:=by omega
  have hks:rs[k]? = some rs[k]:=by simp [hlt]
  obtain ⟨b1,o1,e1,r1⟩:=rowAddr ((hHX.trans hX).kold tk) (by omega)
  have g1:=r1 (k*3) 3 (by omega)
  obtain ⟨nm,sk,e2⟩:=TkC.get3 tt hks
  rw [e2] at g1
  rw [e0]
  refine ⟨⟨by omega,by omega⟩,b1,o1,e1,nm,rs[k],sk,g1,Does.only hX (c51s ok (fun hn X' hXX H5 hX5 hrest=>⟨_,_,_,_,rfl,fun _=>hno ⟨rs[k],List.getElem_mem hlt,hn⟩ H5 ((hHX.trans hXX).trans hX5),fun q=>(by cases q)⟩) fun l hl a6 c5 X' hXX hi hso H5 hX5 hrest=>⟨_,_,_,_,rfl,fun q=>(by cases q),fun _ n1 h1 n2 h2=>?_⟩)⟩
  have l1:=Le.new (e:=mkEnt [Value.slice a6 l.length c5] 0) h1
  have hG5:Gr H5 1 a7 pats.length n9 cs []:=hG.agree fun q e z1 z2=>(hrest q e z2 (hout q z1)).1
  obtain ⟨a',H',ex',f1,f2,f3,f4,f5⟩:=(hG5.agree fun q e _ z=>l1 q e z).append (ti:=PT1) (new:=[.slice a6 l.length c5]) h2 rfl (by omega) (by decide) (by decide)
  have hx:=f3 rfl
  subst hx
  have hout':∀ b,blk a7=some b→X' b=none:=fun b q=>by
   obtain ⟨e,z⟩:=hG.at' q
   exact (hrest b e z (hout b q)).2
  refine ⟨1,_,knew_of (lit_kold (if_pos rfl) rfl),a',_,_,H',f1,rs.length-(k+1),by omega,rfl,rfl,rfl,k+1,pats++[l],_,X',by rw [wrap64 (by omega) (by omega)]; omega,by omega,rfl,by simp,by simp [hpk],hpp.snoc hlt hl,hHX.trans hXX,fun q e z=>f4 q e (l1 q e (hX5 q e z)) fun u=>(by rw [hout' q u] at z; cases z),f2,PtC.snoc hi hso (hP.mono hXX),fun b q=>?_⟩
  ·rcases f5 b q with z | z
   ·exact hout' b z
   ·rw [z]; exact hX5.none (l1.none h2)
 ·have hge:k=rs.length:=by have:=of_decide_eq_false hge; omega
  subst hge
  rw [List.take_length] at hpp
  exact hq pats a7 n9 X H11 cs hpp hHX hX hG hP hout
theorem c7 {rs:List ByteArray} {a:OA} {c:Nat} {H:KH} {Q:PQ} (hk:TkR H rs a) (hs:rs.length≤50)
 (hq:∀ pats ra rc ts g H',ParsE rs pats→Le H H'→IC H' ra (ts.length*257) g→KsOk (nfaM pats) ts→RowsC (nfaM pats) ts g ts.length→Q (.tuple #[.slice ra ts.length rc,.bool true]) H')
 (hmany:∀ pats H',ParsE rs pats→Le H H'→8<clsAll pats→Q (.tuple #[.slice none 0 0,.bool false]) H')
 (hno:(∃ s∈rs,parseR s=none)→∀ H',Le H H'→Q (.tuple #[.slice none 0 0,.bool false]) H'):Does (env Try.prog) 7 [.slice a rs.length c] H Q:=by
 refine fn7 ok (c17 ok hk (by omega) (fun pats a' c' X H2 cs hE hHX hX hG hP _=>⟨_,_,_,_,rfl,fun q=>(by cases q),fun _=>?_⟩) fun hn H' hl=>⟨_,_,_,_,rfl,fun _=>hno hn H' hl,fun q=>by cases q⟩)
 have hlen:=hE.len
 have hPR:PtR H2 pats a':=⟨cs,hG.row,hP.mono hX⟩
 refine c11p ok hPR hE.par (by omega) fun a8 c15 H7 hl7 hst=>⟨_,_,_,rfl,?_⟩
 refine c9p ok hE.par (by omega) hst (fun ra rc ts g H12 hl12 hI hks hC h300=>⟨_,_,_,rfl,?_⟩) fun H12 hl12 hmany'=>⟨_,_,_,rfl,?_⟩
 ·rw [decide_eq_true (by have:=hks.pos; omega)]
  exact hq pats ra rc ts g H12 hE (((hHX.trans hX).trans hl7).trans hl12) hI hks hC
 ·exact hmany pats H12 hE (((hHX.trans hX).trans hl7).trans hl12) hmany'
end
end Va
end Go.Proofs.Ytlgpleiobieniaa
set_option linter.unusedVariables false
set_option linter.unusedSimpArgs false
namespace Go.Ew
open Go.Ev Go.Deep
def fstM (g:Nat→Int) (L:Nat) (w:ByteArray):Int × Int:=if (lgR g L w).2.2=true then ((lgR g L w).1,(lgR g L w).2.1) else (-1,1)
def fromB (s:ByteArray) (i:Nat):ByteArray:=strCut s ((i:Nat):Int) ((s.size:Nat):Int)
theorem fromB_size {s:ByteArray} {i:Nat} (h:i≤s.size):(fromB s i).size=s.size-i:=by
 unfold fromB strCut
 simp only [Int.toNat_natCast,ByteArray.size_extract]
 omega
inductive Tks (F:Nat→Int × Int) (N:Nat):Nat→List (Int × Nat × Int)→Prop where
 | nil:Tks F N N []
 | cons {i n:Nat} {r:List (Int × Nat × Int)} (h1:i<N) (h2:(F i).2=((n:Nat):Int)) (h3:1≤n) (h4:i+n≤N) (hr:Tks F N (i+n) r):Tks F N i (((F i).1,i,((n:Nat):Int)) :: r)
theorem Tks.ex {F:Nat→Int × Int} {N:Nat} (hF:∀ i,i<N→∃ n:Nat,(F i).2=((n:Nat):Int)∧1≤n∧i+n≤N):∀ (m i:Nat),N-i=m→i≤N→∃ r,Tks F N i r:=by
 intro m
 induction m using Nat.strongRecOn with
 | ind m ih =>
   intro i hm hi
   by_cases h:i=N
   ·subst h; exact ⟨[],.nil⟩
   ·obtain ⟨n,h1,h2,h3⟩:=hF i (by omega)
    obtain ⟨r,hr⟩:=ih (N-(i+n)) (by omega) (i+n) rfl h3
    exact ⟨_,.cons (by omega) h1 h2 h3 hr⟩
theorem Tks.len {F:Nat→Int × Int} {N:Nat}:∀ {i:Nat} {r:List (Int × Nat × Int)},Tks F N i r→r.length+i≤N
 | _,_,.nil=>by simp
 | i,_,.cons h1 h2 h3 h4 hr=>by
   have:=hr.len
   simp only [List.length_cons]
   omega
def tkC (l:List (Int × Nat × Int)):List Value:=l.flatMap fun x=>[.int .i64 x.1,.int .i64 ((x.2.1:Nat):Int),.int .i64 x.2.2]
theorem tkC_app (a b:List (Int × Nat × Int)):tkC (a++b)=tkC a++tkC b:=by simp [tkC]
abbrev TK3:TI:=⟨3,24,true,3,0,0,[(0,1),(1,1),(2,1)],[.int .i64 0,.int .i64 0,.int .i64 0]⟩
end Go.Ew
namespace Go.Proofs.Ytlgpleiobieniaa
open Go.Ev Go.Ew
namespace Va
section
variable (ok : EnvOk (env Try.prog))
include ok
theorem c37 {a:OA} {L c:Nat} {g:Nat→Int} {w:ByteArray} {H:KH} {Q:PQ} (hI:IC H a (L*257) g) (hs:w.size≤1000000)
 (hq:Q (.agg #[.int .i64 (fstM g L w).1,.int .i64 0,.int .i64 (fstM g L w).2]) H):Does (env Try.prog) 37 [.slice a L c,.string w] H Q:=by
 refine fn37 ok (c16 ok hI (by omega) ⟨_,_,_,rfl,fun q=>?_,fun q=>?_⟩)
 ·have q:(lgR g L w).2.2=false:=by simpa using q
  unfold fstM at hq
  rw [if_neg (by rw [q]; simp)] at hq
  exact hq
 ·have q:(lgR g L w).2.2=true:=by simpa using q
  unfold fstM at hq
  rw [if_pos q] at hq
  exact hq
theorem c36 {s:ByteArray} {g:Nat→Int} {L:Nat} {l kb ko k1b k1o:Nat} {H:KH} {Q:PQ} (Inv:List (Int × Nat × Int)→KH→Prop) (hs:s.size≤1000000)
 (hcell:∀ r H1,Inv r H1→ld H1 ⟨kb,ko,none⟩ [.string s]∧∃ ra rc,ld H1 ⟨k1b,k1o,none⟩ [.slice ra L rc]∧IC H1 ra (L*257) g)
 (hstep:∀ k i n r H1,Inv ((k,i,n) :: r) H1→DoesR (env Try.prog) l [.agg #[.int .i64 k,.int .i64 ((i:Nat):Int),.int .i64 n]] H1 fun v H2=>(v = .bool true∧Inv r H2)∨(v = .bool false∧Q (.tuple #[]) H2))
 (hend:∀ H1,Inv [] H1→Q (.tuple #[]) H1) {r0:List (Int × Nat × Int)} (hr:Tks (fun i=>fstM g L (fromB s i)) s.size 0 r0) (h0:Inv r0 H) :
 Does (env Try.prog) 36 [.func (.yield l) #[] #[],.pointer (some ⟨kb,ko,none⟩),.pointer (some ⟨k1b,k1o,none⟩)] H Q:=by
 refine fn36 ok ?_
 unfold vc36 vc36_L1
 refine ⟨fun m n4 n5 n6 n7 n8 x9 H10=>n4=l∧n5=kb∧n6=ko∧n7=k1b∧n8=k1o∧∃ (i:Nat) (r:List (Int × Nat × Int)),x9=i∧i≤s.size∧m=s.size-i∧Tks (fun i=>fstM g L (fromB s i)) s.size i r∧Inv r H10,⟨s.size,rfl,rfl,rfl,rfl,rfl,rfl,rfl,0,r0,rfl,by omega,rfl,hr,h0⟩,?_⟩
 rintro m n4 n5 n6 n7 n8 x9 H10 ⟨rfl,rfl,rfl,rfl,rfl,i,r,rfl,hi,rfl,ht,hinv⟩
 obtain ⟨hc,ra,rc,hrc,hI⟩:=hcell _ _ hinv
 refine ⟨s,hc,fun hlt=>?_,fun hge=>?_⟩
 ·have hlt:i<s.size:=by have:=of_decide_eq_true hlt; omega
  cases ht with
  | nil=>omega
  | cons h1 h2 h3 h4 htr =>
    rename_i n r
    refine ⟨trivial,ra,_,rc,hrc,s,hc,⟨by omega,by omega,by omega⟩,c37 ok hI (by have:=fromB_size (s:=s) (i:=i) (by omega); unfold fromB at this; omega) ⟨_,_,_,rfl,trivial,trivial,?_⟩⟩
    have h2:(fstM g L (strCut s ((i:Nat):Int) ((s.size:Nat):Int))).2=((n:Nat):Int):=h2
    rw [h2]
    refine (hstep _ _ _ _ _ hinv).post fun v H3 hv=>?_
    rcases hv with ⟨rfl,hv⟩ | ⟨rfl,hv⟩
    ·exact ⟨true,rfl,fun h=>(by cases h),fun _=>⟨s.size-(i+n),by omega,rfl,rfl,rfl,rfl,rfl,rfl,rfl,i+n,r,by rw [wrap64 (by omega) (by omega)]; omega,h4,rfl,htr,hv⟩⟩
    ·exact ⟨false,rfl,fun _=>hv,fun h=>by cases h⟩
 ·have hge:i=s.size:=by have:=of_decide_eq_false hge; omega
  subst hge
  cases ht with
  | nil=>exact hend _ hinv
  | cons h1=>omega
theorem c21 {a:OA} {L c:Nat} {s:ByteArray} {H:KH} {Q:PQ} (hq:∀ n1 n2,H n1=none→(H.new n1 (mkEnt [.slice a L c] 0)) n2=none→Q (.func (.func 36) #[] #[.pointer (some ⟨n2,0,none⟩),.pointer (some ⟨n1,0,none⟩)]) ((H.new n1 (mkEnt [.slice a L c] 0)).new n2 (mkEnt [.string s] 0))):Does (env Try.prog) 21 [.slice a L c,.string s] H Q:=fn21 ok fun n1 h1 n2 h2=>hq n1 n2 h1 h2
theorem c9 {a:OA} {L c:Nat} {g:Nat→Int} {s:ByteArray} {H:KH} {Q:PQ} (hI:IC H a (L*257) g) (hs:s.size≤100000)
 (hF:∀ i,i<s.size→∃ n:Nat,(fstM g L (fromB s i)).2=((n:Nat):Int)∧1≤n∧i+n≤s.size)
 (hq:∀ l a' c' ex H',Tks (fun i=>fstM g L (fromB s i)) s.size 0 l→Le H H'→Gr H' 3 a' l.length c' (tkC l) ex→Q (.slice a' l.length c') H'):Does (env Try.prog) 9 [.slice a L c,.string s] H Q:=by
 obtain ⟨all,hall⟩:=Tks.ex hF (s.size-0) 0 rfl (by omega)
 have hlen:=hall.len
 refine fn9 ok fun n1 h1=>c21 ok fun ns nt hns hnt=>⟨_,[.pointer (some ⟨nt,0,none⟩),.pointer (some ⟨ns,0,none⟩)],rfl,⟨(by kernel_rfl)⟩,fun n6 L7 h6 hR=>?_⟩
 have ns1:ns≠n1:=fun z=>by subst z; simp [KH.new] at hns
 have nts:nt≠ns:=fun z=>by subst z; simp [KH.new] at hnt
 have nt1:nt≠n1:=fun z=>by subst z; simp [KH.new,ns1.symm] at hnt
 have n6t:n6≠nt:=fun z=>by subst z; simp [KH.new] at h6
 have n6s:n6≠ns:=fun z=>by subst z; simp [KH.new,nts.symm] at h6
 have n61:n6≠n1:=fun z=>by subst z; simp [KH.new,nt1.symm,ns1.symm] at h6
 have hHs:H ns=none:=by simpa [KH.new,ns1] using hns
 have hHt:H nt=none:=by simpa [KH.new,nts,nt1] using hnt
 have hH6:H n6=none:=by simpa [KH.new,n6t,n6s,n61] using h6
 let Base:KH:=(H.new ns (mkEnt [.slice a L c] 0)).new nt (mkEnt [.string s] 0)
 have hBt:(H.new ns (mkEnt [.slice a L c] 0)) nt=none:=by simp only [KH.new]; rw [if_neg nts]; exact hHt
 have hBase:Le H Base:=(Le.new hHs).trans (Le.new hBt)
 have hB1:Base n1=none:=by simp only [Base,KH.new]; rw [if_neg nt1.symm,if_neg ns1.symm]; exact h1
 have hB6:Base n6=none:=by simp only [Base,KH.new]; rw [if_neg n6t,if_neg n6s]; exact hH6
 have hBS:Base ns=some (mkEnt [.slice a L c] 0):=by simp only [Base,KH.new]; rw [if_neg nts.symm]; exact if_pos trivial
 have hBT:Base nt=some (mkEnt [.string s] 0):=if_pos rfl
 have lits:∀ {cs:List Value} {K:KH} {n:Nat},K n=some (mkEnt cs 0)→ld K ⟨n,0,none⟩ cs:=fun {cs K n} hk=>⟨rfl,_,hk,rd_mk cs 0⟩
 let Inv:List (Int × Nat × Int)→KH→Prop:=fun r H1=>H1 n6=some (lpE L7 0 none)∧∃ (dn:List (Int × Nat × Int)) (am:OA) (cm:Nat) (ex:List Value),(∃ e,H1 n1=some e∧wrB e=true∧rd e.cells 0 1=some [.slice am dn.length cm])∧Gr H1 3 am dn.length cm (tkC dn) ex∧Le Base H1∧(∀ b,blk am=some b→Base b=none∧b≠n1∧b≠n6)∧dn++r=all
 refine c36 ok (s:=s) (g:=g) (L:=L) Inv (by omega) (fun r H1 hi=>?_) (fun k i n r H1 hi=>?_) (fun H1 hi=>?_) hall ?_
 ·obtain ⟨g1,dn,am,cm,ex,g2,g3,g4,g5,g6⟩:=hi
  exact ⟨lits (g4 _ _ hBT),a,c,lits (g4 _ _ hBS),hI.mono (hBase.trans g4)⟩
 ·obtain ⟨g1,dn,am,cm,ex,⟨e,e1,e2,e3⟩,g3,g4,g5,g6⟩:=hi
  have hdl:dn.length+1≤s.size:=by
   have:=congrArg List.length g6
   simp only [List.length_append,List.length_cons] at this
   omega
  have hdel:∀ q e,q≠n6→H1 q=some e→(H1.del n6) q=some e:=fun q e z1 z2=>by simp only [KH.del]; rw [if_neg z1]; exact z2
  have hc1:ld (H1.del n6) ⟨n1,0,none⟩ [.slice am dn.length cm]:=⟨rfl,e,hdel _ _ n61.symm e1,e3⟩
  refine hR k ((i:Nat):Int) n H1 _ g1 ⟨am,_,cm,hc1,fun n16 h16 n17 h17=>?_⟩
  have l16:=Le.new (e:=mkEnt [Value.int .i64 k,.int .i64 ((i:Nat):Int),.int .i64 n] 0) h16
  have hG:Gr ((H1.del n6).new n16 (mkEnt [Value.int .i64 k,.int .i64 ((i:Nat):Int),.int .i64 n] 0)) 3 am dn.length cm (tkC dn) ex:=g3.agree fun q e z1 z2=>l16 q e (hdel q e (g5 q z1).2.2 z2)
  obtain ⟨a',H',ex',f1,f2,_,f4,f5⟩:=hG.append (ti:=TK3) (new:=[.int .i64 k,.int .i64 ((i:Nat):Int),.int .i64 n]) h17 rfl (by omega) (by decide) (by decide)
  have h1':H' n1=some e:=f4 n1 e (l16 _ _ (hdel _ _ n61.symm e1)) fun z=>(g5 n1 z).2.1 rfl
  have hc1':ld H' ⟨n1,0,none⟩ [.slice am dn.length cm]:=⟨rfl,e,h1',e3⟩
  refine ⟨1,_,knew_of (lit_kold (if_pos rfl) rfl),a',_,unkU,H',f1,stOk hc1' rfl,⟨⟨e,h1',e2⟩⟩,fun h6'=>.inl ⟨rfl,if_pos rfl,dn++[(k,i,n)],a',unkU,ex',⟨⟨wr e.cells 0 [.slice a' (dn.length+1) unkU],e.len,e.unk,none⟩,?_,wrB_keep e2,?_⟩,?_,?_,fun b hb=>?_,by rw [List.append_assoc]; exact g6⟩⟩
  ·simp only [KH.new]
   rw [if_neg n61.symm]
   simp only [KH.put,if_true,h1',Option.map_some]
  ·have hl:(dn++[(k,i,n)]).length=dn.length+1:=by simp
   rw [hl]
   have:=rdWr (e:=e.cells) (N:=1) (o:=0) (xs:=[]) (ys:=[.slice am dn.length cm]) (zs:=[]) (vs:=[.slice a' (dn.length+1) unkU]) (by simpa using e3) rfl rfl
   simpa using this
  ·have hl:(dn++[(k,i,n)]).length=dn.length+1:=by simp
   rw [hl,tkC_app]
   refine f2.agree fun q e z1 z2=>?_
   have q1:q≠n1:=fun z=>by
    rcases f5 q z1 with y | y
    ·exact (g5 q y).2.1 z
    ·have hb0:(H1.del n6) q=none:=by rw [y]; exact l16.none h17
     rw [z,hdel _ _ n61.symm e1] at hb0; cases hb0
   have q6:q≠n6:=fun z=>by
    have:(H'.put ⟨n1,0,none⟩ [.slice a' (dn.length+1) unkU]) q=some e:=put_ne q1 z2
    rw [z,h6'] at this; cases this
   simp only [KH.new]
   rw [if_neg q6]
   exact put_ne q1 z2
  ·intro q e' z
   have q1:q≠n1:=fun y=>by rw [y,hB1] at z; cases z
   have q6:q≠n6:=fun y=>by rw [y,hB6] at z; cases z
   simp only [KH.new]
   rw [if_neg q6]
   exact put_ne q1 (f4 q e' (l16 q e' (hdel q e' q6 (g4 q e' z))) fun y=>by rw [(g5 q y).1] at z; cases z)
  ·rcases f5 b hb with y | y
   ·exact g5 b y
   ·subst y
    have hb0:(H1.del n6) b=none:=l16.none h17
    refine ⟨?_,fun z=>?_,fun z=>?_⟩
    ·rcases none_or Base b with q | ⟨e',q⟩
     ·exact q
     ·have q6:b≠n6:=fun y=>by rw [y,hB6] at q; cases q
      rw [hdel b e' q6 (g4 b e' q)] at hb0; cases hb0
    ·rw [z,hdel _ _ n61.symm e1] at hb0; cases hb0
    ·obtain ⟨e',he'⟩:=f2.at' hb
     have q1:b≠n1:=fun z=>by rw [z,hdel _ _ n61.symm e1] at hb0; cases hb0
     have:(H'.put ⟨n1,0,none⟩ [.slice a' (dn.length+1) unkU]) b=some e':=put_ne q1 he'
     rw [z,h6'] at this; cases this
 ·obtain ⟨g1,dn,am,cm,ex,⟨e,e1,e2,e3⟩,g3,g4,g5,g6⟩:=hi
  rw [List.append_nil] at g6
  subst g6
  have hdel:∀ q e,q≠n6→H1 q=some e→(H1.del n6) q=some e:=fun q e z1 z2=>by simp only [KH.del]; rw [if_neg z1]; exact z2
  refine .inl ⟨g1,am,_,cm,⟨rfl,e,hdel _ _ n61.symm e1,e3⟩,hq dn am cm ex _ hall (fun q e z=>hdel q e (fun y=>by rw [y,hH6] at z; cases z) (g4 q e (hBase q e z))) (g3.agree fun q e z1 z2=>hdel q e (g5 q z1).2.2 z2)⟩
 ·have hH4:∀ q e,q≠n6→(((H.new n1 (mkEnt [.slice none 0 0] 0)).new ns (mkEnt [.slice a L c] 0)).new nt (mkEnt [.string s] 0)) q=some e→((((H.new n1 (mkEnt [.slice none 0 0] 0)).new ns (mkEnt [.slice a L c] 0)).new nt (mkEnt [.string s] 0)).new n6 (lpE L7 0 none)) q=some e:=fun q e z1 z2=>by simp only [KH.new] at z2 ⊢; rw [if_neg z1]; exact z2
  refine ⟨if_pos rfl,[],none,0,[],⟨_,hH4 n1 _ n61.symm (by simp only [KH.new]; rw [if_neg nt1.symm,if_neg ns1.symm]; exact if_pos trivial),rfl,rd_mk [.slice none 0 0] 0⟩,.nil,fun q e z=>?_,(fun b q=>by cases q),rfl⟩
  have q1:q≠n1:=fun y=>by rw [y,hB1] at z; cases z
  have q6:q≠n6:=fun y=>by rw [y,hB6] at z; cases z
  refine hH4 q e q6 ?_
  simp only [Base,KH.new] at z ⊢
  by_cases a1:q=nt
  ·rw [if_pos a1] at z ⊢; exact z
  ·rw [if_neg a1] at z ⊢
   by_cases a2:q=ns
   ·rw [if_pos a2] at z ⊢; exact z
   ·rw [if_neg a2] at z ⊢
    rw [if_neg q1]; exact z
end
end Va
end Go.Proofs.Ytlgpleiobieniaa
set_option linter.unusedVariables false
set_option linter.unusedSimpArgs false
namespace Go.Ew
open Go.Ev Go.Deep
theorem TkR.mono {H H':KH} {rs:List ByteArray} {a:OA} (h:TkR H rs a) (hl:Le H H'):TkR H' rs a:=by
 obtain ⟨cs,h1,h2⟩:=h
 exact ⟨cs,hl.kold h1,h2⟩
theorem fst_spec {pats:List (List It)} (hpar:∀ l∈pats,∃ s,parseR s=some l) (hp:pats.length≤50) {ts:List ByteArray} {g:Nat→Int} (hk:KsOk (nfaM pats) ts) (hC:RowsC (nfaM pats) ts g ts.length) {w:ByteArray} (hw:w.size≤1000000) (h0:0<w.size) :
 ∃ k j n:Nat,LgSpec (Has pats w) w.size (((k:Nat):Int),((j:Nat):Int),decide (0<j))∧(fstM g ts.length w).2=((n:Nat):Int)∧1≤n∧n≤w.size∧((0<j∧(fstM g ts.length w).1=((k:Nat):Int)∧n=j∧k<pats.length)∨(j=0∧(fstM g ts.length w).1 = -1∧n=1)):=by
 obtain ⟨k,j,h1,h2,h3⟩:=rows_spec hpar hp hk hC hw
 unfold fstM
 rw [h1]
 by_cases hj:0<j
 ·have hd:decide (0<j)=true:=decide_eq_true hj
  have hkl:k<pats.length:=by
   rw [hd] at h2
   generalize hr:(((k:Nat):Int),((j:Nat):Int),true)=r at h2
   cases h2 with
   | no h=>cases hr
   | yes k' j' q1 q2 q3 q4 q5 =>
     have:((k:Nat):Int)=((k':Nat):Int):=congrArg (·.1) hr
     obtain ⟨l,z,_⟩:=q3
     have hk':k'=k:=by omega
     subst hk'
     rcases Nat.lt_or_ge k' pats.length with y | y
     ·exact y
     ·rw [List.getElem?_eq_none y] at z; cases z
  refine ⟨k,j,j,h2,?_,by omega,h3,.inl ⟨hj,?_,rfl,hkl⟩⟩
  ·simp only [hd,if_true]
  ·simp only [hd,if_true]
 ·have hd:decide (0<j)=false:=decide_eq_false hj
  refine ⟨k,j,1,h2,?_,by omega,by omega,.inr ⟨by omega,?_,rfl⟩⟩
  ·simp [hd]
  ·simp [hd]
end Go.Ew
namespace Go.Proofs.Ytlgpleiobieniaa
open Go.Ev Go.Ew
namespace Va
section
variable (ok : EnvOk (env Try.prog))
include ok
end
end Va
end Go.Proofs.Ytlgpleiobieniaa
