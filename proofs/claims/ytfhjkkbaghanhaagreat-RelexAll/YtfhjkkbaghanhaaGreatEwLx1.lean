import Derived.Test.YtfhjkkbaghanhaaGreatEwVc4
import Derived.Test.YtfhjkkbaghanhaaGreatEwS4
set_option linter.unusedVariables false
set_option linter.unusedSimpArgs false
namespace Go.Ew
open Go.Ev Go.Deep
def ParsE (rs:List ByteArray) (pats:List (List It)):Prop:=rs.map parseR=pats.map some
theorem ParsE.len {rs:List ByteArray} {pats:List (List It)} (h:ParsE rs pats):pats.length=rs.length:=by
 have:=congrArg List.length h
 simpa using this.symm
theorem ParsE.par {rs:List ByteArray} {pats:List (List It)} (h:ParsE rs pats):∀ l∈pats,∃ s,parseR s=some l:=fun l hl=>by
 have:some l∈rs.map parseR:=by rw [h]; exact List.mem_map.2 ⟨l,hl,rfl⟩
 obtain ⟨s,_,hs⟩:=List.mem_map.1 this
 exact ⟨s,hs⟩
theorem some_list:∀ {p q:List (List It)},p.map some=q.map some->p=q
 | [],[],_=>rfl
 | [],b :: q,h=>by cases h
 | a :: p,[],h=>by cases h
 | a :: p,b :: q,h=>by
   simp only [List.map_cons,List.cons.injEq,Option.some.injEq] at h
   rw [h.1,some_list h.2]
theorem ParsE.same {rs:List ByteArray} {p q:List (List It)} (h:ParsE rs p) (g:ParsE rs q):p=q:=some_list (by rw [<- h,<- g])
theorem ParsE.snoc {rs:List ByteArray} {pats:List (List It)} {k:Nat} {l:List It} (hk:k<rs.length) (h:ParsE (rs.take k) pats) (hl:parseR rs[k]=some l):ParsE (rs.take (k+1)) (pats++[l]):=by
 unfold ParsE at *
 rw [List.take_succ_eq_append_getElem hk,List.map_append,h,List.map_append]
 simp [hl]
theorem PtC.snoc {X:KH} {l:List It} {a:OA} {c:Nat} (hi:ItR X l a) (hso:SlOk X 2 a l.length c):∀ {ps:List (List It)} {ds:List Value},PtC X ps ds->PtC X (ps++[l]) (ds++[.slice a l.length c])
 | [],ds,h=>by
   have h:ds=[]:=h
   subst h
   exact ⟨a,c,[],rfl,⟨hi,hso⟩,rfl⟩
 | q :: ps,ds,⟨a9,c22,es,g1,g2,g3⟩=>⟨a9,c22,es++[.slice a l.length c],by rw [g1]; rfl,g2,PtC.snoc hi hso g3⟩
theorem TkC.get3:∀ {r:List ByteArray} {cs:List Value} {k:Nat} {s:ByteArray},TkC r cs->r[k]? = some s->∃ nm b,(cs.drop (k*3)).take 3=[.string nm,.string s,.bool b]
 | [],cs,k,s,h,hk=>by simp at hk
 | x :: r,cs,0,s,⟨nm',b',ds,h1,h2⟩,hk=>by
   have hk:x=s:=by simpa using hk
   subst hk; subst h1; exact ⟨nm',b',rfl⟩
 | x :: r,cs,k+1,s,⟨nm',b',ds,h1,h2⟩,hk=>by
   subst h1
   have hk:r[k]? = some s:=by simpa using hk
   obtain ⟨nm,b,h⟩:=TkC.get3 h2 hk
   refine ⟨nm,b,?_⟩
   have e:(k+1)*3=k*3+3:=by omega
   rw [e]
   simpa using h
end Go.Ew
namespace Go.Proofs.YtfhjkkbaghanhaaGreat
open Go.Ev Go.Ew
namespace Va
section
variable (ok : EnvOk (env Tryz.prog))
include ok
theorem c18g {rs:List ByteArray} {a:OA} {c:Nat} {H:KH} {Q:PQ} (hk:TkR H rs a) (hs:rs.length<=1000)
 (hq:∀ (pats:List (List It)) a' c' X H' cs,ParsE rs pats->Le H X->Le X H'->Gr H' 1 a' pats.length c' cs []->PtC X pats cs->(∀ b,blk a'=some b->X b=none)->Q (.tuple #[.slice a' pats.length c',.bool true]) H')
 (hno:(∃ s∈rs,parseR s=none)->∀ H',Le H H'->Q (.tuple #[.slice none 0 0,.bool false]) H'):Does (env Tryz.prog) 9 [.slice a rs.length c] H Q:=by
 obtain ⟨tc,tk,tt⟩:=hk
 refine fn9 ok ?_
 unfold vc9 vc9_L2
 refine ⟨fun n3 a4 n5 n6 a7 n8 n9 x10 H11=>a4=a/\n5=rs.length/\∃ (k:Nat) (pats:List (List It)) (cs:List Value) (X:KH),x10=k/\k<=rs.length/\n3=rs.length-k/\n8=pats.length/\pats.length=k/\ParsE (rs.take k) pats/\Le H X/\Le X H11/\Gr H11 1 a7 n8 n9 cs []/\PtC X pats cs/\∀ b,blk a7=some b->X b=none,
  ⟨rs.length,rfl,rfl,0,[],[],H,rfl,by omega,rfl,rfl,rfl,rfl,Le.refl _,Le.refl _,.nil,rfl,fun b q=>by cases q⟩,?_⟩
 rintro n3 a4 n5 n6 a7 n8 n9 x10 H11 ⟨rfl,rfl,k,pats,cs,X,rfl,hk,rfl,rfl,hpk,hpp,hHX,hX,hG,hP,hout⟩
 refine ⟨fun hlt=>?_,fun hge=>?_⟩
 .have hlt:k<rs.length:=by have:=of_decide_eq_true hlt; omega
  have e0:Int.toNat ((k:Nat):Int)=k:=by omega
  have hks:rs[k]? = some rs[k]:=by simp [hlt]
  obtain ⟨b1,o1,e1,r1⟩:=rowAddr ((hHX.trans hX).kold tk) (by omega)
  have g1:=r1 (k*3+1) 1 (by omega)
  have e2:(tc.drop (k*3+1)).take 1=[.string rs[k]]:=dropTake rfl fun j hj=>by
   match j,hj with
   | 0,_=>simpa using tt.get hks
  rw [e2] at g1
  rw [e0]
  refine ⟨⟨by omega,by omega⟩,b1,o1,e1,rfl,rs[k],by simpa [Nat.add_assoc] using g1,Does.only hX (c20 ok (fun hn X' hXX H5 hX5 hrest=>⟨_,_,_,_,rfl,fun _=>hno ⟨rs[k],List.getElem_mem hlt,hn⟩ H5 ((hHX.trans hXX).trans hX5),fun q=>(by cases q)⟩) fun l hl a6 c5 X' hXX hi hso H5 hX5 hrest=>⟨_,_,_,_,rfl,fun q=>(by cases q),fun _ n1 h1 n2 h2=>?_⟩)⟩
  have l1:=Le.new (e:=mkEnt [Value.slice a6 l.length c5] 0) h1
  have hG5:Gr H5 1 a7 pats.length n9 cs []:=hG.agree fun q e z1 z2=>(hrest q e z2 (hout q z1)).1
  obtain ⟨a',H',ex',f1,f2,f3,f4,f5⟩:=(hG5.agree fun q e _ z=>l1 q e z).append (ti:=PT1) (new:=[.slice a6 l.length c5]) h2 rfl (by omega) (by decide) (by decide)
  have hx:=f3 rfl
  subst hx
  have hout':∀ b,blk a7=some b->X' b=none:=fun b q=>by
   obtain ⟨e,z⟩:=hG.at' q
   exact (hrest b e z (hout b q)).2
  refine ⟨1,_,knew_of (lit_kold (if_pos rfl) rfl),a',_,_,H',f1,rs.length-(k+1),by omega,rfl,rfl,k+1,pats++[l],_,X',by rw [wrap64 (by omega) (by omega)]; omega,by omega,rfl,by simp,by simp [hpk],hpp.snoc hlt hl,hHX.trans hXX,fun q e z=>f4 q e (l1 q e (hX5 q e z)) fun u=>(by rw [hout' q u] at z; cases z),f2,PtC.snoc hi hso (hP.mono hXX),fun b q=>?_⟩
  .rcases f5 b q with z | z
   .exact hout' b z
   .rw [z]; exact hX5.none (l1.none h2)
 .have hge:k=rs.length:=by have:=of_decide_eq_false hge; omega
  subst hge
  rw [List.take_length] at hpp
  exact hq pats a7 n9 X H11 cs hpp hHX hX hG hP hout
theorem c21 {rs:List ByteArray} {a:OA} {c:Nat} {H:KH} {Q:PQ} (hk:TkR H rs a) (hs:rs.length<=1000)
 (hq:∀ (pats:List (List It)) a' c' X H' cs,ParsE rs pats->Le H X->Le X H'->Gr H' 1 a' pats.length c' cs []->PtC X pats cs->(∀ b,blk a'=some b->X b=none)->Q (.tuple #[.slice a' pats.length c',.bool true]) H')
 (hno:(∃ s∈rs,parseR s=none)->∀ H',Le H H'->Q (.tuple #[.slice none 0 0,.bool false]) H'):Does (env Tryz.prog) 21 [.slice a rs.length c] H Q:=by
 obtain ⟨tc,tk,tt⟩:=hk
 refine fn21 ok ?_
 unfold vc21 vc21_L2
 refine ⟨fun n3 a7 n8 n9 a4 n5 n6 x11 x10 H11=>a4=a/\n5=rs.length/\x11=(rs.length:Nat)/\∃ (k:Nat) (pats:List (List It)) (cs:List Value) (X:KH),x10=k/\k<=rs.length/\n3=rs.length-k/\n8=pats.length/\pats.length=k/\ParsE (rs.take k) pats/\Le H X/\Le X H11/\Gr H11 1 a7 n8 n9 cs []/\PtC X pats cs/\∀ b,blk a7=some b->X b=none,
  ⟨rs.length,rfl,rfl,rfl,0,[],[],H,rfl,by omega,rfl,rfl,rfl,rfl,Le.refl _,Le.refl _,.nil,rfl,fun b q=>by cases q⟩,?_⟩
 rintro n3 a7 n8 n9 a4 n5 n6 x11 x10 H11 ⟨rfl,rfl,rfl,k,pats,cs,X,rfl,hk,rfl,rfl,hpk,hpp,hHX,hX,hG,hP,hout⟩
 refine ⟨fun hlt=>?_,fun hge=>?_⟩
 .have hlt:k<rs.length:=by have:=of_decide_eq_true hlt; omega
  have e0:Int.toNat ((k:Nat):Int)=k:=by omega
  have hks:rs[k]? = some rs[k]:=by simp [hlt]
  obtain ⟨b1,o1,e1,r1⟩:=rowAddr ((hHX.trans hX).kold tk) (by omega)
  have g1:=r1 (k*3) 3 (by omega)
  obtain ⟨nm,sk,e2⟩:=TkC.get3 tt hks
  rw [e2] at g1
  rw [e0]
  refine ⟨⟨by omega,by omega⟩,b1,o1,e1,nm,rs[k],sk,g1,Does.only hX (c51s ok (fun hn X' hXX H5 hX5 hrest=>⟨_,_,_,_,rfl,fun _=>hno ⟨rs[k],List.getElem_mem hlt,hn⟩ H5 ((hHX.trans hXX).trans hX5),fun q=>(by cases q)⟩) fun l hl a6 c5 X' hXX hi hso H5 hX5 hrest=>⟨_,_,_,_,rfl,fun q=>(by cases q),fun _ n1 h1 n2 h2=>?_⟩)⟩
  have l1:=Le.new (e:=mkEnt [Value.slice a6 l.length c5] 0) h1
  have hG5:Gr H5 1 a7 pats.length n9 cs []:=hG.agree fun q e z1 z2=>(hrest q e z2 (hout q z1)).1
  obtain ⟨a',H',ex',f1,f2,f3,f4,f5⟩:=(hG5.agree fun q e _ z=>l1 q e z).append (ti:=PT1) (new:=[.slice a6 l.length c5]) h2 rfl (by omega) (by decide) (by decide)
  have hx:=f3 rfl
  subst hx
  have hout':∀ b,blk a7=some b->X' b=none:=fun b q=>by
   obtain ⟨e,z⟩:=hG.at' q
   exact (hrest b e z (hout b q)).2
  refine ⟨1,_,knew_of (lit_kold (if_pos rfl) rfl),a',_,_,H',f1,rs.length-(k+1),by omega,rfl,rfl,rfl,k+1,pats++[l],_,X',by rw [wrap64 (by omega) (by omega)]; omega,by omega,rfl,by simp,by simp [hpk],hpp.snoc hlt hl,hHX.trans hXX,fun q e z=>f4 q e (l1 q e (hX5 q e z)) fun u=>(by rw [hout' q u] at z; cases z),f2,PtC.snoc hi hso (hP.mono hXX),fun b q=>?_⟩
  .rcases f5 b q with z | z
   .exact hout' b z
   .rw [z]; exact hX5.none (l1.none h2)
 .have hge:k=rs.length:=by have:=of_decide_eq_false hge; omega
  subst hge
  rw [List.take_length] at hpp
  exact hq pats a7 n9 X H11 cs hpp hHX hX hG hP hout
theorem c10 {rs:List ByteArray} {a:OA} {c:Nat} {H:KH} {Q:PQ} (hk:TkR H rs a) (hs:rs.length<=50)
 (hq:∀ pats ra rc ts g H',ParsE rs pats->Le H H'->IC H' ra (ts.length*257) g->KsOk (nfaM pats) ts->RowsC (nfaM pats) ts g ts.length->Q (.tuple #[.slice ra ts.length rc,.bool true]) H')
 (hmany:∀ pats H',ParsE rs pats->Le H H'->8<clsAll pats->Q (.tuple #[.slice none 0 0,.bool false]) H')
 (hno:(∃ s∈rs,parseR s=none)->∀ H',Le H H'->Q (.tuple #[.slice none 0 0,.bool false]) H'):Does (env Tryz.prog) 10 [.slice a rs.length c] H Q:=by
 refine fn10 ok (c21 ok hk (by omega) (fun pats a' c' X H2 cs hE hHX hX hG hP _=>⟨_,_,_,_,rfl,fun q=>(by cases q),fun _=>?_⟩) fun hn H' hl=>⟨_,_,_,_,rfl,fun _=>hno hn H' hl,fun q=>by cases q⟩)
 have hlen:=hE.len
 have hPR:PtR H2 pats a':=⟨cs,hG.row,hP.mono hX⟩
 refine c11p ok hPR hE.par (by omega) fun a8 c23 H7 hl7 hst=>⟨_,_,_,rfl,?_⟩
 refine c9p ok hE.par (by omega) hst (fun ra rc ts g H12 hl12 hI hks hC h300=>⟨_,_,_,rfl,?_⟩) fun H12 hl12 hmany'=>⟨_,_,_,rfl,?_⟩
 .rw [decide_eq_true (by have:=hks.pos; omega)]
  exact hq pats ra rc ts g H12 hE (((hHX.trans hX).trans hl7).trans hl12) hI hks hC
 .exact hmany pats H12 hE (((hHX.trans hX).trans hl7).trans hl12) hmany'
end
end Va
end Go.Proofs.YtfhjkkbaghanhaaGreat
namespace Go.Ew
open Go.Ev Go.Deep
def fstM (g:Nat->Int) (L:Nat) (w:ByteArray):Int × Int:=if (lgR g L w).2.2=true then ((lgR g L w).1,(lgR g L w).2.1) else (-1,1)
def fromB (s:ByteArray) (i:Nat):ByteArray:=strCut s ((i:Nat):Int) ((s.size:Nat):Int)
theorem fromB_size {s:ByteArray} {i:Nat} (h:i<=s.size):(fromB s i).size=s.size-i:=by
 unfold fromB strCut
 simp only [Int.toNat_natCast,ByteArray.size_extract]
 omega
inductive Tks (F:Nat->Int × Int) (N:Nat):Nat->List (Int × Nat × Int)->Prop where
 | nil:Tks F N N []
 | cons {i n:Nat} {r:List (Int × Nat × Int)} (h1:i<N) (h2:(F i).2=((n:Nat):Int)) (h3:1<=n) (h4:i+n<=N) (hr:Tks F N (i+n) r):Tks F N i (((F i).1,i,((n:Nat):Int)) :: r)
theorem Tks.ex {F:Nat->Int × Int} {N:Nat} (hF:∀ i,i<N->∃ n:Nat,(F i).2=((n:Nat):Int)/\1<=n/\i+n<=N):∀ (m i:Nat),N-i=m->i<=N->∃ r,Tks F N i r:=by
 intro m
 induction m using Nat.strongRecOn with
 | ind m ih =>
   intro i hm hi
   by_cases h:i=N
   .subst h; exact ⟨[],.nil⟩
   .obtain ⟨n,h1,h2,h3⟩:=hF i (by omega)
    obtain ⟨r,hr⟩:=ih (N-(i+n)) (by omega) (i+n) rfl h3
    exact ⟨_,.cons (by omega) h1 h2 h3 hr⟩
theorem Tks.len {F:Nat->Int × Int} {N:Nat}:∀ {i:Nat} {r:List (Int × Nat × Int)},Tks F N i r->r.length+i<=N
 | _,_,.nil=>by simp
 | i,_,.cons h1 h2 h3 h4 hr=>by
   have:=hr.len
   simp only [List.length_cons]
   omega
def tkC (l:List (Int × Nat × Int)):List Value:=l.flatMap fun x=>[.int .i64 x.1,.int .i64 ((x.2.1:Nat):Int),.int .i64 x.2.2]
theorem tkC_app (a b:List (Int × Nat × Int)):tkC (a++b)=tkC a++tkC b:=by simp [tkC]
abbrev TK3:TI:=⟨3,24,true,3,0,0,[(0,1),(1,1),(2,1)],[.int .i64 0,.int .i64 0,.int .i64 0]⟩
end Go.Ew
namespace Go.Proofs.YtfhjkkbaghanhaaGreat
open Go.Ev Go.Ew
namespace Va
section
variable (ok : EnvOk (env Tryz.prog))
include ok
theorem c45 {a:OA} {L c:Nat} {g:Nat->Int} {w:ByteArray} {H:KH} {Q:PQ} (hI:IC H a (L*257) g) (hs:w.size<=1000000)
 (hq:Q (.agg #[.int .i64 (fstM g L w).1,.int .i64 0,.int .i64 (fstM g L w).2]) H):Does (env Tryz.prog) 45 [.slice a L c,.string w] H Q:=by
 refine fn45 ok (c68 ok hI (by omega) ⟨_,_,_,rfl,fun q=>?_,fun q=>?_⟩)
 .have q:(lgR g L w).2.2=false:=by simpa using q
  unfold fstM at hq
  rw [if_neg (by rw [q]; simp)] at hq
  exact hq
 .have q:(lgR g L w).2.2=true:=by simpa using q
  unfold fstM at hq
  rw [if_pos q] at hq
  exact hq
theorem c44 {s:ByteArray} {g:Nat->Int} {L:Nat} {l kb ko k1b k1o:Nat} {H:KH} {Q:PQ} (Inv:List (Int × Nat × Int)->KH->Prop) (hs:s.size<=1000000)
 (hcell:∀ r H1,Inv r H1->ld H1 ⟨kb,ko,none⟩ [.string s]/\∃ ra rc,ld H1 ⟨k1b,k1o,none⟩ [.slice ra L rc]/\IC H1 ra (L*257) g)
 (hstep:∀ k i n r H1,Inv ((k,i,n) :: r) H1->DoesR (env Tryz.prog) l [.agg #[.int .i64 k,.int .i64 ((i:Nat):Int),.int .i64 n]] H1 fun v H2=>(v = .bool true/\Inv r H2)\/(v = .bool false/\Q (.tuple #[]) H2))
 (hend:∀ H1,Inv [] H1->Q (.tuple #[]) H1) {r0:List (Int × Nat × Int)} (hr:Tks (fun i=>fstM g L (fromB s i)) s.size 0 r0) (h0:Inv r0 H) :
 Does (env Tryz.prog) 44 [.func (.yield l) #[] #[],.pointer (some ⟨kb,ko,none⟩),.pointer (some ⟨k1b,k1o,none⟩)] H Q:=by
 refine fn44 ok ?_
 unfold vc44 vc44_L1
 refine ⟨fun m n4 n5 n6 n7 n8 x9 H10=>n4=l/\n5=kb/\n6=ko/\n7=k1b/\n8=k1o/\∃ (i:Nat) (r:List (Int × Nat × Int)),x9=i/\i<=s.size/\m=s.size-i/\Tks (fun i=>fstM g L (fromB s i)) s.size i r/\Inv r H10,⟨s.size,rfl,rfl,rfl,rfl,rfl,rfl,rfl,0,r0,rfl,by omega,rfl,hr,h0⟩,?_⟩
 rintro m n4 n5 n6 n7 n8 x9 H10 ⟨rfl,rfl,rfl,rfl,rfl,i,r,rfl,hi,rfl,ht,hinv⟩
 obtain ⟨hc,ra,rc,hrc,hI⟩:=hcell _ _ hinv
 refine ⟨s,hc,fun hlt=>?_,fun hge=>?_⟩
 .have hlt:i<s.size:=by have:=of_decide_eq_true hlt; omega
  cases ht with
  | nil=>omega
  | cons h1 h2 h3 h4 htr =>
    rename_i n r
    refine ⟨trivial,ra,_,rc,hrc,s,hc,⟨by omega,by omega,by omega⟩,c45 ok hI (by have:=fromB_size (s:=s) (i:=i) (by omega); unfold fromB at this; omega) ⟨_,_,_,rfl,trivial,trivial,?_⟩⟩
    have h2:(fstM g L (strCut s ((i:Nat):Int) ((s.size:Nat):Int))).2=((n:Nat):Int):=h2
    rw [h2]
    refine (hstep _ _ _ _ _ hinv).post fun v H3 hv=>?_
    rcases hv with ⟨rfl,hv⟩ | ⟨rfl,hv⟩
    .exact ⟨true,rfl,fun h=>(by cases h),fun _=>⟨s.size-(i+n),by omega,rfl,rfl,rfl,rfl,rfl,rfl,rfl,i+n,r,by rw [wrap64 (by omega) (by omega)]; omega,h4,rfl,htr,hv⟩⟩
    .exact ⟨false,rfl,fun _=>hv,fun h=>by cases h⟩
 .have hge:i=s.size:=by have:=of_decide_eq_false hge; omega
  subst hge
  cases ht with
  | nil=>exact hend _ hinv
  | cons h1=>omega
theorem c29 {a:OA} {L c:Nat} {s:ByteArray} {H:KH} {Q:PQ} (hq:∀ n1 n2,H n1=none->(H.new n1 (mkEnt [.slice a L c] 0)) n2=none->Q (.func (.func 44) #[] #[.pointer (some ⟨n2,0,none⟩),.pointer (some ⟨n1,0,none⟩)]) ((H.new n1 (mkEnt [.slice a L c] 0)).new n2 (mkEnt [.string s] 0))):Does (env Tryz.prog) 29 [.slice a L c,.string s] H Q:=fn29 ok fun n1 h1 n2 h2=>hq n1 n2 h1 h2
theorem c17 {a:OA} {L c:Nat} {g:Nat->Int} {s:ByteArray} {H:KH} {Q:PQ} (hI:IC H a (L*257) g) (hs:s.size<=100000)
 (hF:∀ i,i<s.size->∃ n:Nat,(fstM g L (fromB s i)).2=((n:Nat):Int)/\1<=n/\i+n<=s.size)
 (hq:∀ l a' c' ex H',Tks (fun i=>fstM g L (fromB s i)) s.size 0 l->Le H H'->Gr H' 3 a' l.length c' (tkC l) ex->Q (.slice a' l.length c') H'):Does (env Tryz.prog) 17 [.slice a L c,.string s] H Q:=by
 obtain ⟨all,hall⟩:=Tks.ex hF (s.size-0) 0 rfl (by omega)
 have hlen:=hall.len
 refine fn17 ok fun n1 h1=>c29 ok fun ns nt hns hnt=>⟨_,[.pointer (some ⟨nt,0,none⟩),.pointer (some ⟨ns,0,none⟩)],rfl,⟨(by kernel_rfl)⟩,fun n6 L7 h6 hR=>?_⟩
 have ns1:ns≠n1:=fun z=>by subst z; simp [KH.new] at hns
 have nts:nt≠ns:=fun z=>by subst z; simp [KH.new] at hnt
 have nt1:nt≠n1:=fun z=>by subst z; simp [KH.new,ns1.symm] at hnt
 have n6t:n6≠nt:=fun z=>by subst z; simp [KH.new] at h6
 have n6s:n6≠ns:=fun z=>by subst z; simp [KH.new,nts.symm] at h6
 have n61:n6≠n1:=fun z=>by subst z; simp [KH.new,nt1.symm,ns1.symm] at h6
 have hHs:H ns=none:=by simpa [KH.new,ns1] using hns
 have hHt:H nt=none:=by simpa [KH.new,nts,nt1] using hnt
 have hH6:H n6=none:=by simpa [KH.new,n6t,n6s,n61] using h6
 let Base:KH:=(H.new ns (mkEnt [.slice a L c] 0)).new nt (mkEnt [.string s] 0)
 have hBt:(H.new ns (mkEnt [.slice a L c] 0)) nt=none:=by simp only [KH.new]; rw [if_neg nts]; exact hHt
 have hBase:Le H Base:=(Le.new hHs).trans (Le.new hBt)
 have hB1:Base n1=none:=by simp only [Base,KH.new]; rw [if_neg nt1.symm,if_neg ns1.symm]; exact h1
 have hB6:Base n6=none:=by simp only [Base,KH.new]; rw [if_neg n6t,if_neg n6s]; exact hH6
 have hBS:Base ns=some (mkEnt [.slice a L c] 0):=by simp only [Base,KH.new]; rw [if_neg nts.symm]; exact if_pos trivial
 have hBT:Base nt=some (mkEnt [.string s] 0):=if_pos rfl
 have lits:∀ {cs:List Value} {K:KH} {n:Nat},K n=some (mkEnt cs 0)->ld K ⟨n,0,none⟩ cs:=fun {cs K n} hk=>⟨rfl,_,hk,rd_mk cs 0⟩
 let Inv:List (Int × Nat × Int)->KH->Prop:=fun r H1=>H1 n6=some (lpE L7 0 none)/\∃ (dn:List (Int × Nat × Int)) (am:OA) (cm:Nat) (ex:List Value),(∃ e,H1 n1=some e/\wrB e=true/\rd e.cells 0 1=some [.slice am dn.length cm])/\Gr H1 3 am dn.length cm (tkC dn) ex/\Le Base H1/\(∀ b,blk am=some b->Base b=none/\b≠n1/\b≠n6)/\dn++r=all
 refine c44 ok (s:=s) (g:=g) (L:=L) Inv (by omega) (fun r H1 hi=>?_) (fun k i n r H1 hi=>?_) (fun H1 hi=>?_) hall ?_
 .obtain ⟨g1,dn,am,cm,ex,g2,g3,g4,g5,g6⟩:=hi
  exact ⟨lits (g4 _ _ hBT),a,c,lits (g4 _ _ hBS),hI.mono (hBase.trans g4)⟩
 .obtain ⟨g1,dn,am,cm,ex,⟨e,e1,e2,e3⟩,g3,g4,g5,g6⟩:=hi
  have hdl:dn.length+1<=s.size:=by
   have:=congrArg List.length g6
   simp only [List.length_append,List.length_cons] at this
   omega
  have hdel:∀ q e,q≠n6->H1 q=some e->(H1.del n6) q=some e:=fun q e z1 z2=>by simp only [KH.del]; rw [if_neg z1]; exact z2
  have hc1:ld (H1.del n6) ⟨n1,0,none⟩ [.slice am dn.length cm]:=⟨rfl,e,hdel _ _ n61.symm e1,e3⟩
  refine hR k ((i:Nat):Int) n H1 _ g1 ⟨am,_,cm,hc1,fun n16 h16 n17 h17=>?_⟩
  have l16:=Le.new (e:=mkEnt [Value.int .i64 k,.int .i64 ((i:Nat):Int),.int .i64 n] 0) h16
  have hG:Gr ((H1.del n6).new n16 (mkEnt [Value.int .i64 k,.int .i64 ((i:Nat):Int),.int .i64 n] 0)) 3 am dn.length cm (tkC dn) ex:=g3.agree fun q e z1 z2=>l16 q e (hdel q e (g5 q z1).2.2 z2)
  obtain ⟨a',H',ex',f1,f2,_,f4,f5⟩:=hG.append (ti:=TK3) (new:=[.int .i64 k,.int .i64 ((i:Nat):Int),.int .i64 n]) h17 rfl (by omega) (by decide) (by decide)
  have h1':H' n1=some e:=f4 n1 e (l16 _ _ (hdel _ _ n61.symm e1)) fun z=>(g5 n1 z).2.1 rfl
  have hc1':ld H' ⟨n1,0,none⟩ [.slice am dn.length cm]:=⟨rfl,e,h1',e3⟩
  refine ⟨1,_,knew_of (lit_kold (if_pos rfl) rfl),a',_,unkU,H',f1,stOk hc1' rfl,⟨⟨e,h1',e2⟩⟩,fun h6'=>.inl ⟨rfl,if_pos rfl,dn++[(k,i,n)],a',unkU,ex',⟨⟨wr e.cells 0 [.slice a' (dn.length+1) unkU],e.len,e.unk,none⟩,?_,wrB_keep e2,?_⟩,?_,?_,fun b hb=>?_,by rw [List.append_assoc]; exact g6⟩⟩
  .simp only [KH.new]
   rw [if_neg n61.symm]
   simp only [KH.put,if_true,h1',Option.map_some]
  .have hl:(dn++[(k,i,n)]).length=dn.length+1:=by simp
   rw [hl]
   have:=rdWr (e:=e.cells) (N:=1) (o:=0) (xs:=[]) (ys:=[.slice am dn.length cm]) (zs:=[]) (vs:=[.slice a' (dn.length+1) unkU]) (by simpa using e3) rfl rfl
   simpa using this
  .have hl:(dn++[(k,i,n)]).length=dn.length+1:=by simp
   rw [hl,tkC_app]
   refine f2.agree fun q e z1 z2=>?_
   have q1:q≠n1:=fun z=>by
    rcases f5 q z1 with y | y
    .exact (g5 q y).2.1 z
    .have hb0:(H1.del n6) q=none:=by rw [y]; exact l16.none h17
     rw [z,hdel _ _ n61.symm e1] at hb0; cases hb0
   have q6:q≠n6:=fun z=>by
    have:(H'.put ⟨n1,0,none⟩ [.slice a' (dn.length+1) unkU]) q=some e:=put_ne q1 z2
    rw [z,h6'] at this; cases this
   simp only [KH.new]
   rw [if_neg q6]
   exact put_ne q1 z2
  .intro q e' z
   have q1:q≠n1:=fun y=>by rw [y,hB1] at z; cases z
   have q6:q≠n6:=fun y=>by rw [y,hB6] at z; cases z
   simp only [KH.new]
   rw [if_neg q6]
   exact put_ne q1 (f4 q e' (l16 q e' (hdel q e' q6 (g4 q e' z))) fun y=>by rw [(g5 q y).1] at z; cases z)
  .rcases f5 b hb with y | y
   .exact g5 b y
   .subst y
    have hb0:(H1.del n6) b=none:=l16.none h17
    refine ⟨?_,fun z=>?_,fun z=>?_⟩
    .rcases none_or Base b with q | ⟨e',q⟩
     .exact q
     .have q6:b≠n6:=fun y=>by rw [y,hB6] at q; cases q
      rw [hdel b e' q6 (g4 b e' q)] at hb0; cases hb0
    .rw [z,hdel _ _ n61.symm e1] at hb0; cases hb0
    .obtain ⟨e',he'⟩:=f2.at' hb
     have q1:b≠n1:=fun z=>by rw [z,hdel _ _ n61.symm e1] at hb0; cases hb0
     have:(H'.put ⟨n1,0,none⟩ [.slice a' (dn.length+1) unkU]) b=some e':=put_ne q1 he'
     rw [z,h6'] at this; cases this
 .obtain ⟨g1,dn,am,cm,ex,⟨e,e1,e2,e3⟩,g3,g4,g5,g6⟩:=hi
  rw [List.append_nil] at g6
  subst g6
  have hdel:∀ q e,q≠n6->H1 q=some e->(H1.del n6) q=some e:=fun q e z1 z2=>by simp only [KH.del]; rw [if_neg z1]; exact z2
  refine .inl ⟨g1,am,_,cm,⟨rfl,e,hdel _ _ n61.symm e1,e3⟩,hq dn am cm ex _ hall (fun q e z=>hdel q e (fun y=>by rw [y,hH6] at z; cases z) (g4 q e (hBase q e z))) (g3.agree fun q e z1 z2=>hdel q e (g5 q z1).2.2 z2)⟩
 .have hH4:∀ q e,q≠n6->(((H.new n1 (mkEnt [.slice none 0 0] 0)).new ns (mkEnt [.slice a L c] 0)).new nt (mkEnt [.string s] 0)) q=some e->((((H.new n1 (mkEnt [.slice none 0 0] 0)).new ns (mkEnt [.slice a L c] 0)).new nt (mkEnt [.string s] 0)).new n6 (lpE L7 0 none)) q=some e:=fun q e z1 z2=>by simp only [KH.new] at z2 ⊢; rw [if_neg z1]; exact z2
  refine ⟨if_pos rfl,[],none,0,[],⟨_,hH4 n1 _ n61.symm (by simp only [KH.new]; rw [if_neg nt1.symm,if_neg ns1.symm]; exact if_pos trivial),rfl,rd_mk [.slice none 0 0] 0⟩,.nil,fun q e z=>?_,(fun b q=>by cases q),rfl⟩
  have q1:q≠n1:=fun y=>by rw [y,hB1] at z; cases z
  have q6:q≠n6:=fun y=>by rw [y,hB6] at z; cases z
  refine hH4 q e q6 ?_
  simp only [Base,KH.new] at z ⊢
  by_cases a1:q=nt
  .rw [if_pos a1] at z ⊢; exact z
  .rw [if_neg a1] at z ⊢
   by_cases a2:q=ns
   .rw [if_pos a2] at z ⊢; exact z
   .rw [if_neg a2] at z ⊢
    rw [if_neg q1]; exact z
end
end Va
end Go.Proofs.YtfhjkkbaghanhaaGreat
set_option maxRecDepth 100000
namespace Go.Proofs.YtfhjkkbaghanhaaGreat
open Go.Ev Go.Ew
namespace Va
def W25 (P:Program):WE:=⟨env P,tupT,[],mkTab [],25⟩
def vc25 (p0 p1 p2:Int) (H:KH) (Q:PQ):Prop :=
 ((decide ((0:Int)<=p0)=true->(decide ((0:Int)<=p1)=true->Q (.bool (decide (p1<=(IntKind.wrap .i64 (p2-p0))))) H)/\(decide ((0:Int)<=p1)=false->Q (.bool false) H))/\(decide ((0:Int)<=p0)=false->Q (.bool false) H))
theorem fn25 (ok:EnvOk (env Tryz.prog)) {p0 p1 p2:Int} {H:KH} {Q:PQ} (h:vc25 p0 p1 p2 H Q):Does (env Tryz.prog) 25 [.int .i64 p0,.int .i64 p1,.int .i64 p2] H Q :=
 wFun_sound (W:=W25 Tryz.prog) ok.tt (blt_lt (by kernel_rfl)) (ff_of ok (by kernel_rfl) Tryz.func25) (Eq.mpr (by kernel_rfl) h)
def W27 (P:Program):WE:=⟨env P,tupT,[3],mkTab [],27⟩
def vc27 (p0_0 p0_1:ByteArray) (p1:OA) (p1n p1c:Nat) (p2:OA) (p2n p2c:Nat) (H:KH) (Q:PQ):Prop :=
 (True/\Does (env Tryz.prog) 42 [.slice p1 p1n p1c,.slice p2 p2n p2c] H fun n o=>∃ (c:Nat) (d:(List Value)),n=(.func (.func c) #[] (List.toArray d))/\(((.agg #[.string p0_0,.string p0_1]):Value)=(.agg #[.string p0_0,.string p0_1])/\True)/\Does (env Tryz.prog) 41 [.agg #[.string p0_0,.string p0_1],.func (.func c) #[] (List.toArray d),.int .i64 0] o fun p b=>∃ (a:Int),p=(.int .i64 a)/\True/\True/\∃ (e:(OA)) (f g:Nat),((kslice b 3 p1 p1n p1c (some (.int .i64 a)) none):(Option Value))=(some (.slice e f g))/\∃ (h:(OA)) (i j:Nat),((kslice b 3 p2 p2n p2c (some (.int .i64 a)) none):(Option Value))=(some (.slice h i j))/\Does (env Tryz.prog) 43 [.slice e f g,.slice h i j] b fun q r=>∃ (k:Nat) (l:(List Value)),q=(.func (.func k) #[] (List.toArray l))/\(((.agg #[.string p0_0,.string p0_1]):Value)=(.agg #[.string p0_0,.string p0_1])/\((3:Nat)=3/\((0+1):Nat)=(0+1))/\((.string p0_1):Value)=(.string p0_1)/\((.int .i64 (((ByteArray.size p0_1):Nat):Int)):Value)=(.int .i64 (((ByteArray.size p0_1):Nat):Int))/\((3:Nat)=3/\((0+0):Nat)=(0+0))/\((.string p0_0):Value)=(.string p0_0)/\((.int .i64 (((ByteArray.size p0_0):Nat):Int)):Value)=(.int .i64 (((ByteArray.size p0_0):Nat):Int))/\((.int .i64 (IntKind.wrap .i64 ((((ByteArray.size p0_1):Nat):Int)-(((ByteArray.size p0_0):Nat):Int)))):Value)=(.int .i64 (IntKind.wrap .i64 ((((ByteArray.size p0_1):Nat):Int)-(((ByteArray.size p0_0):Nat):Int))))/\True)/\Does (env Tryz.prog) 41 [.agg #[.string p0_0,.string p0_1],.func (.func k) #[] (List.toArray l),.int .i64 (IntKind.wrap .i64 ((((ByteArray.size p0_1):Nat):Int)-(((ByteArray.size p0_0):Nat):Int)))] r fun s t=>∃ (m:Int),s=(.int .i64 m)/\True/\Q (.int .i64 (IntKind.wrap .i64 (a+m))) t)
theorem fn27 (ok:EnvOk (env Tryz.prog)) {p0_0 p0_1:ByteArray} {p1:OA} {p1n p1c:Nat} {p2:OA} {p2n p2c:Nat} {H:KH} {Q:PQ} (h:vc27 p0_0 p0_1 p1 p1n p1c p2 p2n p2c H Q):Does (env Tryz.prog) 27 [.agg #[.string p0_0,.string p0_1],.slice p1 p1n p1c,.slice p2 p2n p2c] H Q :=
 wFun_sound (W:=W27 Tryz.prog) ok.tt (blt_lt (by kernel_rfl)) (ff_of ok (by kernel_rfl) Tryz.func27) (Eq.mpr (by kernel_rfl) h)
def W41 (P:Program):WE:=⟨env P,tupT,[8,9],mkTab [(2000011,[.tmp 3 .bool,.tmp 5 .bool,.tmp 7 .bool]),(1000011,[.agg 11 [.int .i64 0,.int .i64 0,.int .i64 0],.agg 12 [.int .i64 0,.int .i64 0,.int .i64 0]])],41⟩
def vc41 (p0_0 p0_1:ByteArray) (p1:Nat) (p1k:(List Value)) (p2:Int) (H:KH) (Q:PQ):Prop :=
 (∀ (c:Nat),((H c):(Option (Ent)))=none->∀ (e:Nat),(((KH.new H c (mkEnt (Array.toList #[Value.string p0_0,.string p0_1]) 0)) e):(Option (Ent)))=none->∀ (b:Nat),(((KH.new (KH.new H c (mkEnt (Array.toList #[Value.string p0_0,.string p0_1]) 0)) e (mkEnt [(.int .i64 p2)] 0)) b):(Option (Ent)))=none->(∃ (l:(List Value)),((List.length l):Nat)=(List.length [(Value.int .i64 0)])/\ld (KH.new (KH.new (KH.new H c (mkEnt (Array.toList #[Value.string p0_0,.string p0_1]) 0)) e (mkEnt [(.int .i64 p2)] 0)) b (mkEnt [(.int .i64 0)] 0)) ⟨b,0,none⟩ l)/\KH.may (KH.new (KH.new (KH.new H c (mkEnt (Array.toList #[Value.string p0_0,.string p0_1]) 0)) e (mkEnt [(.int .i64 p2)] 0)) b (mkEnt [(.int .i64 0)] 0)) b/\FnIn (env Tryz.prog) p1/\∀ (a:Nat) (f:Lp),(((KH.put (KH.new (KH.new (KH.new H c (mkEnt (Array.toList #[Value.string p0_0,.string p0_1]) 0)) e (mkEnt [(.int .i64 p2)] 0)) b (mkEnt [(.int .i64 0)] 0)) ⟨b,0,none⟩ [(.int .i64 0)]) a):(Option (Ent)))=none->(∀ (m:Int) (n:Int) (o:Int) (p:Int) (q:Int) (r:Int) (h:KH) (j:(PQ)),((h a):(Option (Ent)))=(some (lpE f 0 none))->(∃ (s t:ByteArray),ld (KH.del h a) ⟨c,0,none⟩ [.string s,.string t]/\∃ (u:Int),ld (KH.del h a) ⟨e,0,none⟩ [(.int .i64 u)]/\Does (env Tryz.prog) 65 [.agg #[.string s,.string t],.agg #[.int .i64 m,.int .i64 n,.int .i64 o],.agg #[.int .i64 p,.int .i64 q,.int .i64 r],.int .i64 u] (KH.del h a) fun y g=>∃ (k:Bool),y=(.bool k)/\((!k)=true->((g a):(Option (Ent)))=none->j (.bool false) (KH.new g a (lpE f 2 (some (.exit 0)))))/\((!k)=false->∃ (i:Int),ld g ⟨b,0,none⟩ [(.int .i64 i)]/\(∃ (v:(List Value)),((List.length v):Nat)=(List.length [(Value.int .i64 (IntKind.wrap .i64 (i+1)))])/\ld g ⟨b,0,none⟩ v)/\KH.may g b/\((((KH.put g ⟨b,0,none⟩ [(.int .i64 (IntKind.wrap .i64 (i+1)))]) a):(Option (Ent)))=none->j (.bool true) (KH.new (KH.put g ⟨b,0,none⟩ [(.int .i64 (IntKind.wrap .i64 (i+1)))]) a (lpE f 0 none)))))->DoesR (env Tryz.prog) a [.agg #[.int .i64 m,.int .i64 n,.int .i64 o],.agg #[.int .i64 p,.int .i64 q,.int .i64 r]] h j)->Does (env Tryz.prog) p1 ([(.func (.yield a) #[] #[])]++p1k) (KH.new (KH.put (KH.new (KH.new (KH.new H c (mkEnt (Array.toList #[Value.string p0_0,.string p0_1]) 0)) e (mkEnt [(.int .i64 p2)] 0)) b (mkEnt [(.int .i64 0)] 0)) ⟨b,0,none⟩ [(.int .i64 0)]) a (lpE f 0 none)) fun z d=>(((d a):(Option (Ent)))=(some (lpE f 0 none))/\∃ (w:Int),ld (KH.del d a) ⟨b,0,none⟩ [(.int .i64 w)]/\Q (.int .i64 w) (KH.del d a))\/((((d a):(Option (Ent)))=(some (lpE f 2 (some .ret)))/\Q (.int .i64 0) (KH.del d a))\/(((d a):(Option (Ent)))=(some (lpE f 2 (some (.exit 0))))/\∃ (x:Int),ld (KH.del d a) ⟨b,0,none⟩ [(.int .i64 x)]/\Q (.int .i64 x) (KH.del d a))))
theorem fn41 (ok:EnvOk (env Tryz.prog)) {p0_0 p0_1:ByteArray} {p1:Nat} {p1k:List Value} {p2:Int} {H:KH} {Q:PQ} (h:vc41 p0_0 p0_1 p1 p1k p2 H Q):Does (env Tryz.prog) 41 [.agg #[.string p0_0,.string p0_1],.func (.func p1) #[] (List.toArray p1k),.int .i64 p2] H Q :=
 wFun_sound (W:=W41 Tryz.prog) ok.tt (blt_lt (by kernel_rfl)) (ff_of ok (by kernel_rfl) Tryz.func41) (Eq.mpr (by kernel_rfl) h)
def W42 (P:Program):WE:=⟨env P,tupT,[],mkTab [],42⟩
def vc42 (p0:OA) (p0n p0c:Nat) (p1:OA) (p1n p1c:Nat) (H:KH) (Q:PQ):Prop :=
 (∀ (a:Nat),((H a):(Option (Ent)))=none->∀ (b:Nat),(((KH.new H a (mkEnt [(.slice p0 p0n p0c)] 0)) b):(Option (Ent)))=none->Q (.func (.func 66) #[] #[.pointer (some ⟨a,0,none⟩),.pointer (some ⟨b,0,none⟩)]) (KH.new (KH.new H a (mkEnt [(.slice p0 p0n p0c)] 0)) b (mkEnt [(.slice p1 p1n p1c)] 0)))
theorem fn42 (ok:EnvOk (env Tryz.prog)) {p0:OA} {p0n p0c:Nat} {p1:OA} {p1n p1c:Nat} {H:KH} {Q:PQ} (h:vc42 p0 p0n p0c p1 p1n p1c H Q):Does (env Tryz.prog) 42 [.slice p0 p0n p0c,.slice p1 p1n p1c] H Q :=
 wFun_sound (W:=W42 Tryz.prog) ok.tt (blt_lt (by kernel_rfl)) (ff_of ok (by kernel_rfl) Tryz.func42) (Eq.mpr (by kernel_rfl) h)
def W43 (P:Program):WE:=⟨env P,tupT,[],mkTab [],43⟩
def vc43 (p0:OA) (p0n p0c:Nat) (p1:OA) (p1n p1c:Nat) (H:KH) (Q:PQ):Prop :=
 (∀ (a:Nat),((H a):(Option (Ent)))=none->∀ (b:Nat),(((KH.new H a (mkEnt [(.slice p0 p0n p0c)] 0)) b):(Option (Ent)))=none->Q (.func (.func 67) #[] #[.pointer (some ⟨a,0,none⟩),.pointer (some ⟨b,0,none⟩)]) (KH.new (KH.new H a (mkEnt [(.slice p0 p0n p0c)] 0)) b (mkEnt [(.slice p1 p1n p1c)] 0)))
theorem fn43 (ok:EnvOk (env Tryz.prog)) {p0:OA} {p0n p0c:Nat} {p1:OA} {p1n p1c:Nat} {H:KH} {Q:PQ} (h:vc43 p0 p0n p0c p1 p1n p1c H Q):Does (env Tryz.prog) 43 [.slice p0 p0n p0c,.slice p1 p1n p1c] H Q :=
 wFun_sound (W:=W43 Tryz.prog) ok.tt (blt_lt (by kernel_rfl)) (ff_of ok (by kernel_rfl) Tryz.func43) (Eq.mpr (by kernel_rfl) h)
def W65 (P:Program):WE:=⟨env P,tupT,[4,5,6],mkTab [],65⟩
def vc65 (p0_0 p0_1:ByteArray) (p1_0 p1_1 p1_2 p2_0 p2_1 p2_2 p3:Int) (H:KH) (Q:PQ):Prop :=
 Does (env Tryz.prog) 25 [.int .i64 p1_1,.int .i64 p1_2,.int .i64 (((ByteArray.size p0_0):Nat):Int)] H fun c b=>∃ (a:Bool),c=(.bool a)/\((!a)=true->Q (.bool false) b)/\((!a)=false->((0:Int)<=p1_1/\p1_1<=(IntKind.wrap .i64 (p1_1+p1_2))/\((IntKind.wrap .i64 (p1_1+p1_2)):Int)<=(((ByteArray.size p0_0):Nat):Int))/\((((decide (p1_0=p2_0))&&((decide (((IntKind.wrap .i64 (p1_1+p3)):Int)=p2_1))&&((decide (p1_2=p2_2))&&true))):Bool)=true->((0:Int)<=p2_1/\p2_1<=(IntKind.wrap .i64 (p2_1+p2_2))/\((IntKind.wrap .i64 (p2_1+p2_2)):Int)<=(((ByteArray.size p0_1):Nat):Int))/\Q (.bool (strEq (strCut p0_0 p1_1 (IntKind.wrap .i64 (p1_1+p1_2))) (strCut p0_1 p2_1 (IntKind.wrap .i64 (p2_1+p2_2))))) b)/\((((decide (p1_0=p2_0))&&((decide (((IntKind.wrap .i64 (p1_1+p3)):Int)=p2_1))&&((decide (p1_2=p2_2))&&true))):Bool)=false->Q (.bool false) b))
theorem fn65 (ok:EnvOk (env Tryz.prog)) {p0_0 p0_1:ByteArray} {p1_0 p1_1 p1_2 p2_0 p2_1 p2_2 p3:Int} {H:KH} {Q:PQ} (h:vc65 p0_0 p0_1 p1_0 p1_1 p1_2 p2_0 p2_1 p2_2 p3 H Q):Does (env Tryz.prog) 65 [.agg #[.string p0_0,.string p0_1],.agg #[.int .i64 p1_0,.int .i64 p1_1,.int .i64 p1_2],.agg #[.int .i64 p2_0,.int .i64 p2_1,.int .i64 p2_2],.int .i64 p3] H Q :=
 wFun_sound (W:=W65 Tryz.prog) ok.tt (blt_lt (by kernel_rfl)) (ff_of ok (by kernel_rfl) Tryz.func65) (Eq.mpr (by kernel_rfl) h)
def W66 (P:Program):WE:=⟨env P,tupT,[],mkTab [(0,[.tmp 0 .yld,.tmp 1 .ptr,.tmp 2 .ptr,.tmp 9 (.int .i64),.tmp 10 (.int .i64)])],66⟩
def vc66_L1 (y1 y2 y3 y4 y5 y6 y7:Nat) (y8:KH) (y9:PQ):Prop :=
 (∃ (d:(Nat->Nat->Nat->Nat->Nat->Nat->Int->Int->KH->Prop)),(∃ (ab:Nat),(none:(Option Nat))=none/\(none:(Option Nat))=none/\d ab y1 y2 y3 y4 y5 (min (y6:Int) (y7:Int)) 0 y8)/\∀ (k e f g h i:Nat) (c a:Int) (b:KH),d k e f g h i c a b->(decide (a<c)=true->True/\∃ (l:(OA)) (m ac:Nat),ld b ⟨f,g,none⟩ [(.slice l m ac)]/\((0:Int)<=a/\a<(m:Int))/\∃ (n o:Nat),l=some ⟨n,o,none⟩/\∃ (p q r:Int),ld b ⟨n,o+((Int.toNat a)*3),none⟩ [.int .i64 p,.int .i64 q,.int .i64 r]/\∃ (s:(OA)) (t ad:Nat),ld b ⟨h,i,none⟩ [(.slice s t ad)]/\((0:Int)<=a/\a<(t:Int))/\∃ (u v:Nat),s=some ⟨u,v,none⟩/\∃ (w x y:Int),ld b ⟨u,v+((Int.toNat a)*3),none⟩ [.int .i64 w,.int .i64 x,.int .i64 y]/\DoesR (env Tryz.prog) e [.agg #[.int .i64 p,.int .i64 q,.int .i64 r],.agg #[.int .i64 w,.int .i64 x,.int .i64 y]] b fun ae aa=>∃ (j:Bool),ae=(.bool j)/\True/\((!j)=true->y9 (.tuple #[]) aa)/\((!j)=false->∃ (z:Nat),(z:Nat)<k/\(none:(Option Nat))=none/\(none:(Option Nat))=none/\d z e f g h i c (IntKind.wrap .i64 (a+1)) aa))/\(decide (a<c)=false->y9 (.tuple #[]) b))
def vc66 (p0 k0b k0o k1b k1o:Nat) (H:KH) (Q:PQ):Prop :=
 (∃ (c:(OA)) (a d:Nat),ld H ⟨k0b,k0o,none⟩ [(.slice c a d)]/\∃ (e:(OA)) (b f:Nat),ld H ⟨k1b,k1o,none⟩ [(.slice e b f)]/\vc66_L1 p0 k0b k0o k1b k1o a b H Q)
theorem fn66 (ok:EnvOk (env Tryz.prog)) {p0 k0b k0o k1b k1o:Nat} {H:KH} {Q:PQ} (h:vc66 p0 k0b k0o k1b k1o H Q):Does (env Tryz.prog) 66 [.func (.yield p0) #[] #[],.pointer (some ⟨k0b,k0o,none⟩),.pointer (some ⟨k1b,k1o,none⟩)] H Q :=
 wFun_sound (W:=W66 Tryz.prog) ok.tt (blt_lt (by kernel_rfl)) (ff_of ok (by kernel_rfl) Tryz.func66) (Eq.mpr (by kernel_rfl) h)
def W67 (P:Program):WE:=⟨env P,tupT,[],mkTab [(0,[.tmp 0 .yld,.tmp 1 .ptr,.tmp 2 .ptr,.tmp 9 (.int .i64),.tmp 10 (.int .i64)])],67⟩
def vc67_L1 (y1 y2 y3 y4 y5 y6 y7:Nat) (y8:KH) (y9:PQ):Prop :=
 (∃ (j:(Nat->Nat->Nat->Nat->Nat->Nat->Int->Int->KH->Prop)),(∃ (ad:Nat),(none:(Option Nat))=none/\(none:(Option Nat))=none/\j ad y1 y2 y3 y4 y5 (min (y6:Int) (y7:Int)) 0 y8)/\∀ (m k c d e f:Nat) (g a:Int) (b:KH),j m k c d e f g a b->(decide (a<g)=true->True/\∃ (n:(OA)) (o ae:Nat),ld b ⟨c,d,none⟩ [(.slice n o ae)]/\∃ (af:(OA)) (h ag:Nat),ld b ⟨c,d,none⟩ [(.slice af h ag)]/\((0:Int)<=(IntKind.wrap .i64 ((IntKind.wrap .i64 ((h:Int)-1))-a))/\((IntKind.wrap .i64 ((IntKind.wrap .i64 ((h:Int)-1))-a)):Int)<(o:Int))/\∃ (p q:Nat),n=some ⟨p,q,none⟩/\∃ (r s t:Int),ld b ⟨p,q+((Int.toNat (IntKind.wrap .i64 ((IntKind.wrap .i64 ((h:Int)-1))-a)))*3),none⟩ [.int .i64 r,.int .i64 s,.int .i64 t]/\∃ (u:(OA)) (v ah:Nat),ld b ⟨e,f,none⟩ [(.slice u v ah)]/\∃ (ai:(OA)) (i aj:Nat),ld b ⟨e,f,none⟩ [(.slice ai i aj)]/\((0:Int)<=(IntKind.wrap .i64 ((IntKind.wrap .i64 ((i:Int)-1))-a))/\((IntKind.wrap .i64 ((IntKind.wrap .i64 ((i:Int)-1))-a)):Int)<(v:Int))/\∃ (w x:Nat),u=some ⟨w,x,none⟩/\∃ (y z aa:Int),ld b ⟨w,x+((Int.toNat (IntKind.wrap .i64 ((IntKind.wrap .i64 ((i:Int)-1))-a)))*3),none⟩ [.int .i64 y,.int .i64 z,.int .i64 aa]/\DoesR (env Tryz.prog) k [.agg #[.int .i64 r,.int .i64 s,.int .i64 t],.agg #[.int .i64 y,.int .i64 z,.int .i64 aa]] b fun ak ac=>∃ (l:Bool),ak=(.bool l)/\True/\((!l)=true->y9 (.tuple #[]) ac)/\((!l)=false->∃ (ab:Nat),(ab:Nat)<m/\(none:(Option Nat))=none/\(none:(Option Nat))=none/\j ab k c d e f g (IntKind.wrap .i64 (a+1)) ac))/\(decide (a<g)=false->y9 (.tuple #[]) b))
def vc67 (p0 k0b k0o k1b k1o:Nat) (H:KH) (Q:PQ):Prop :=
 (∃ (c:(OA)) (a d:Nat),ld H ⟨k0b,k0o,none⟩ [(.slice c a d)]/\∃ (e:(OA)) (b f:Nat),ld H ⟨k1b,k1o,none⟩ [(.slice e b f)]/\vc67_L1 p0 k0b k0o k1b k1o a b H Q)
theorem fn67 (ok:EnvOk (env Tryz.prog)) {p0 k0b k0o k1b k1o:Nat} {H:KH} {Q:PQ} (h:vc67 p0 k0b k0o k1b k1o H Q):Does (env Tryz.prog) 67 [.func (.yield p0) #[] #[],.pointer (some ⟨k0b,k0o,none⟩),.pointer (some ⟨k1b,k1o,none⟩)] H Q :=
 wFun_sound (W:=W67 Tryz.prog) ok.tt (blt_lt (by kernel_rfl)) (ff_of ok (by kernel_rfl) Tryz.func67) (Eq.mpr (by kernel_rfl) h)
def W13 (P:Program):WE:=⟨env P,tupT,[7],mkTab [],13⟩
def vc13 (p0:OA) (p0n p0c:Nat) (p1:ByteArray) (p2:OA) (p2n p2c:Nat) (p3_0 p3_1:Int) (p3_2:ByteArray) (H:KH) (Q:PQ):Prop :=
 Does (env Tryz.prog) 25 [.int .i64 p3_0,.int .i64 p3_1,.int .i64 (((ByteArray.size p1):Nat):Int)] H fun h g=>∃ (b:Bool),h=(.bool b)/\((!b)=true->Q (.tuple #[.string (ByteArray.mk #[]),.slice none 0 0,.int .i64 0,.bool false]) g)/\((!b)=false->Does (env Tryz.prog) 26 [.string p1,.agg #[.int .i64 p3_0,.int .i64 p3_1,.string p3_2]] g fun i j=>∃ (a:ByteArray),i=(.string a)/\Does (env Tryz.prog) 17 [.slice p0 p0n p0c,.string a] j fun k l=>∃ (c:(OA)) (d e:Nat),k=(.slice c d e)/\Does (env Tryz.prog) 27 [.agg #[.string p1,.string a],.slice p2 p2n p2c,.slice c d e] l fun m n=>∃ (f:Int),m=(.int .i64 f)/\Q (.tuple #[.string a,.slice c d e,.int .i64 f,.bool true]) n)
theorem fn13 (ok:EnvOk (env Tryz.prog)) {p0:OA} {p0n p0c:Nat} {p1:ByteArray} {p2:OA} {p2n p2c:Nat} {p3_0 p3_1:Int} {p3_2:ByteArray} {H:KH} {Q:PQ} (h:vc13 p0 p0n p0c p1 p2 p2n p2c p3_0 p3_1 p3_2 H Q):Does (env Tryz.prog) 13 [.slice p0 p0n p0c,.string p1,.slice p2 p2n p2c,.agg #[.int .i64 p3_0,.int .i64 p3_1,.string p3_2]] H Q :=
 wFun_sound (W:=W13 Tryz.prog) ok.tt (blt_lt (by kernel_rfl)) (ff_of ok (by kernel_rfl) Tryz.func13) (Eq.mpr (by kernel_rfl) h)
def W15 (P:Program):WE:=⟨env P,tupT,[],mkTab [(0,[.tmp 0 .slice,.tmp 1 .slice,.tmp 5 (.int .i64)])],15⟩
def vc15_L1 (y1:OA) (y2 y3:Nat) (y4:OA) (y5 y6:Nat) (y7:KH) (y8:PQ):Prop :=
 (∃ (d:(Nat->OA->Nat->Nat->OA->Nat->Nat->Int->KH->Prop)),(∃ (v:Nat),d v y1 y2 y3 y4 y5 y6 0 y7)/\∀ (n:Nat) (e:(OA)) (c o:Nat) (f:(OA)) (g p:Nat) (a:Int) (b:KH),d n e c o f g p a b->(decide (a<(c:Int))=true->True/\((0:Int)<=a/\a<(c:Int))/\∃ (q r:Nat),e=some ⟨q,r,none⟩/\∃ (h i j:Int),ld b ⟨q,r+((Int.toNat a)*3),none⟩ [.int .i64 h,.int .i64 i,.int .i64 j]/\((0:Int)<=a/\a<(g:Int))/\∃ (s t:Nat),f=some ⟨s,t,none⟩/\∃ (k l m:Int),ld b ⟨s,t+((Int.toNat a)*3),none⟩ [.int .i64 k,.int .i64 l,.int .i64 m]/\(((!((decide (h=k))&&((decide (i=l))&&((decide (j=m))&&true)))):Bool)=true->y8 (.bool false) b)/\(((!((decide (h=k))&&((decide (i=l))&&((decide (j=m))&&true)))):Bool)=false->∃ (u:Nat),(u:Nat)<n/\d u e c o f g p (IntKind.wrap .i64 (a+1)) b))/\(decide (a<(c:Int))=false->y8 (.bool true) b))
def vc15 (p0:OA) (p0n p0c:Nat) (p1:OA) (p1n p1c:Nat) (H:KH) (Q:PQ):Prop :=
 ((decide ((p0n:Int)≠(p1n:Int))=true->Q (.bool false) H)/\(decide ((p0n:Int)≠(p1n:Int))=false->vc15_L1 p0 p0n p0c p1 p1n p1c H Q))
theorem fn15 (ok:EnvOk (env Tryz.prog)) {p0:OA} {p0n p0c:Nat} {p1:OA} {p1n p1c:Nat} {H:KH} {Q:PQ} (h:vc15 p0 p0n p0c p1 p1n p1c H Q):Does (env Tryz.prog) 15 [.slice p0 p0n p0c,.slice p1 p1n p1c] H Q :=
 wFun_sound (W:=W15 Tryz.prog) ok.tt (blt_lt (by kernel_rfl)) (ff_of ok (by kernel_rfl) Tryz.func15) (Eq.mpr (by kernel_rfl) h)
end Va
end Go.Proofs.YtfhjkkbaghanhaaGreat
namespace Go.Ew
open Go.Ev Go.Deep
abbrev Tok3:=Int × Nat × Int
def tkV (x:Tok3):Value:=.agg #[.int .i64 x.1,.int .i64 ((x.2.1:Nat):Int),.int .i64 x.2.2]
def InT (N:Nat) (x:Tok3):Prop:=0<=x.2.2/\((x.2.1:Nat):Int)+x.2.2<=N
def cutT (s:ByteArray) (x:Tok3):ByteArray:=strCut s ((x.2.1:Nat):Int) (((x.2.1:Nat):Int)+x.2.2)
def sameM (was is:ByteArray) (mv:Int) (o w:Tok3):Bool:=(decide (o.1=w.1)&&(decide (((o.2.1:Nat):Int)+mv=((w.2.1:Nat):Int))&&(decide (o.2.2=w.2.2)&&true)))&&strEq (cutT was o) (cutT is w)
def stayM (was is:ByteArray) (mv:Int):List (Tok3 × Tok3)->Nat
 | []=>0
 | p :: r=>if sameM was is mv p.1 p.2=true then stayM was is mv r+1 else 0
theorem stayM_le (was is:ByteArray) (mv:Int):∀ l,stayM was is mv l<=l.length
 | []=>Nat.le_refl _
 | p :: r=>by
   have:=stayM_le was is mv r
   unfold stayM
   split
   .simp only [List.length_cons]; omega
   .omega
def frontM (was is:ByteArray) (l m:List Tok3):Nat:=stayM was is 0 (l.zip m)
def endT (was is:ByteArray) (l m:List Tok3):Nat:=stayM was is (((is.size:Nat):Int)-((was.size:Nat):Int)) (l.reverse.zip m.reverse)
def keptM (was is:ByteArray) (l m:List Tok3):Nat:=frontM was is l m+endT was is (l.drop (frontM was is l m)) (m.drop (frontM was is l m))
theorem tkC_get3:∀ {l:List Tok3} {i:Nat} {x:Tok3},l[i]? = some x->((tkC l).drop (i*3)).take 3=[.int .i64 x.1,.int .i64 ((x.2.1:Nat):Int),.int .i64 x.2.2]
 | [],i,x,h=>by simp at h
 | y :: r,0,x,h=>by
   simp only [List.getElem?_cons_zero,Option.some.injEq] at h
   subst h
   simp [tkC]
 | y :: r,i+1,x,h=>by
   have:=tkC_get3 (l:=r) (i:=i) (x:=x) (by simpa using h)
   have e:(i+1)*3=i*3+1+1+1:=by omega
   simp only [tkC,List.flatMap_cons,List.cons_append,List.nil_append,e,List.drop_succ_cons]
   exact this
theorem tk_ld3 {H:KH} {a:OA} {l:List Tok3} (h:kold H 3 a l.length=some (tkC l)) {i:Nat} {x:Tok3} (hi:l[i]? = some x):∃ b o,a=some ⟨b,o,none⟩/\ld H ⟨b,o+i*3,none⟩ [.int .i64 x.1,.int .i64 ((x.2.1:Nat):Int),.int .i64 x.2.2]:=by
 have hl:i<l.length:=by
  rcases Nat.lt_or_ge i l.length with z | z
  .exact z
  .rw [List.getElem?_eq_none z] at hi; cases hi
 obtain ⟨b,o,e,r⟩:=rowAddr h (by omega)
 refine ⟨b,o,e,?_⟩
 have:=r (i*3) 3 (by omega)
 rw [tkC_get3 hi] at this
 exact this
theorem tkC_drop (l:List Tok3) (k:Nat):(tkC l).drop (k*3)=tkC (l.drop k):=by
 induction l generalizing k with
 | nil=>simp [tkC]
 | cons x r ih =>
   cases k with
   | zero=>simp
   | succ k =>
     have e:(k+1)*3=k*3+1+1+1:=by omega
     simp only [tkC,List.flatMap_cons,List.cons_append,List.nil_append,e,List.drop_succ_cons]
     exact ih k
end Go.Ew
namespace Go.Proofs.YtfhjkkbaghanhaaGreat
open Go.Ev Go.Ew
namespace Va
section
variable (ok : EnvOk (env Tryz.prog))
include ok
theorem c25 {p0 p1:Int} {N:Nat} {H:KH} {Q:PQ} (h0:p0<9223372036854775808) (hN:N<=1000000) (hq:Q (.bool (decide (0<=p0/\0<=p1/\p1+p0<=((N:Nat):Int)))) H):Does (env Tryz.prog) 25 [.int .i64 p0,.int .i64 p1,.int .i64 ((N:Nat):Int)] H Q:=by
 refine fn25 ok ⟨fun q0=>⟨fun q1=>?_,fun q1=>?_⟩,fun q0=>?_⟩
 .have q0:=of_decide_eq_true q0
  have q1:=of_decide_eq_true q1
  rw [wrap64 (by omega) (by omega)]
  have e:(decide (0<=p0/\0<=p1/\p1+p0<=((N:Nat):Int)))=decide (p1<=((N:Nat):Int)-p0):=decide_eq_decide.2 ⟨fun h=>by omega,fun h=>by omega⟩
  rw [e] at hq
  exact hq
 .have q1:=of_decide_eq_false q1
  rw [decide_eq_false (by omega)] at hq
  exact hq
 .have q0:=of_decide_eq_false q0
  rw [decide_eq_false (by omega)] at hq
  exact hq
theorem c65 {was is:ByteArray} {o w:Tok3} {mv:Int} {H:KH} {Q:PQ} (hwas:was.size<=1000000) (his:is.size<=1000000) (ho:InT was.size o) (hw:InT is.size w) (hm : -1000000<=mv/\mv<=1000000)
 (hq:Q (.bool (sameM was is mv o w)) H):Does (env Tryz.prog) 65 [.agg #[.string was,.string is],tkV o,tkV w,.int .i64 mv] H Q:=by
 obtain ⟨o1,o2,o3⟩:=o
 obtain ⟨w1,w2,w3⟩:=w
 obtain ⟨a1,a2⟩:=ho
 obtain ⟨b1,b2⟩:=hw
 simp only at a1 a2 b1 b2
 have e1:IntKind.wrap .i64 (((o2:Nat):Int)+o3)=((o2:Nat):Int)+o3:=wrap64 (by omega) (by omega)
 have e2:IntKind.wrap .i64 (((w2:Nat):Int)+w3)=((w2:Nat):Int)+w3:=wrap64 (by omega) (by omega)
 have e3:IntKind.wrap .i64 (((o2:Nat):Int)+mv)=((o2:Nat):Int)+mv:=wrap64 (by omega) (by omega)
 show Does (env Tryz.prog) 65 [.agg #[.string was,.string is],.agg #[.int .i64 o1,.int .i64 ((o2:Nat):Int),.int .i64 o3],.agg #[.int .i64 w1,.int .i64 ((w2:Nat):Int),.int .i64 w3],.int .i64 mv] H Q
 refine fn65 ok (c25 ok (by omega) hwas ⟨_,rfl,fun h=>?_,fun _=>?_⟩)
 .rw [decide_eq_true (by omega)] at h; cases h
 rw [e1,e2,e3]
 refine ⟨⟨by omega,by omega,by omega⟩,fun h=>⟨⟨by omega,by omega,by omega⟩,?_⟩,fun h=>?_⟩
 .unfold sameM at hq
  simp only at hq
  rw [h,Bool.true_and] at hq
  exact hq
 .unfold sameM at hq
  simp only at hq
  rw [h,Bool.false_and] at hq
  exact hq
def Tells (P:Program) (g:Nat) (k:List Value) (ps:List (Tok3 × Tok3)) (H:KH):Prop:=∀ (l:Nat) (Inv:List (Tok3 × Tok3)->KH->Prop) (H0:KH) (Q:PQ),
 (∀ r H1,Inv r H1->Le H H1)->
 (∀ o w r H1,Inv ((o,w) :: r) H1->DoesR (env P) l [tkV o,tkV w] H1 fun v H2=>(v = .bool true/\Inv r H2)\/(v = .bool false/\Q (.tuple #[]) H2))->
 (∀ H1,Inv [] H1->Q (.tuple #[]) H1)->Inv ps H0->Does (env P) g ([.func (.yield l) #[] #[]]++k) H0 Q
theorem c66 {kb ko k1b k1o:Nat} {a b:OA} {c d:Nat} {l m:List Tok3} {H:KH} (hl:kold H 3 a l.length=some (tkC l)) (hm:kold H 3 b m.length=some (tkC m))
 (h0:ld H ⟨kb,ko,none⟩ [.slice a l.length c]) (h1:ld H ⟨k1b,k1o,none⟩ [.slice b m.length d]) (hs:l.length<=1000000) :
 Tells Tryz.prog 66 [.pointer (some ⟨kb,ko,none⟩),.pointer (some ⟨k1b,k1o,none⟩)] (l.zip m) H:=by
 intro y Inv H0 Q hle hstep hend hinv0
 have hz:(l.zip m).length=min l.length m.length:=List.length_zip
 have g0:=hle _ _ hinv0
 refine fn66 ok ⟨a,_,c,g0.ld h0,b,_,d,g0.ld h1,?_⟩
 unfold vc66_L1
 refine ⟨fun n n4 n5 n6 n7 n8 x9 x10 H11=>n4=y/\n5=kb/\n6=ko/\n7=k1b/\n8=k1o/\x9=((min l.length m.length:Nat):Int)/\∃ i:Nat,x10=i/\i<=min l.length m.length/\n=min l.length m.length-i/\Inv ((l.zip m).drop i) H11,⟨_,rfl,rfl,rfl,rfl,rfl,rfl,rfl,by omega,0,rfl,by omega,rfl,hinv0⟩,?_⟩
 rintro n n4 n5 n6 n7 n8 x9 x10 H11 ⟨rfl,rfl,rfl,rfl,rfl,rfl,i,rfl,hi,rfl,hinv⟩
 refine ⟨fun hlt=>?_,fun hge=>?_⟩
 .have hlt:i<min l.length m.length:=by have:=of_decide_eq_true hlt; omega
  have e0:Int.toNat ((i:Nat):Int)=i:=by omega
  have hle1:=hle _ _ hinv
  obtain ⟨b0,o0,ha,r0⟩:=tk_ld3 (hle1.kold hl) (List.getElem?_eq_getElem (show i<l.length by omega))
  obtain ⟨b1,o1,hb,r1⟩:=tk_ld3 (hle1.kold hm) (List.getElem?_eq_getElem (show i<m.length by omega))
  rw [List.drop_eq_getElem_cons (by omega),List.getElem_zip] at hinv
  rw [e0]
  refine ⟨trivial,a,_,c,hle1.ld h0,⟨by omega,by omega⟩,b0,o0,ha,_,_,_,r0,b,_,d,hle1.ld h1,⟨by omega,by omega⟩,b1,o1,hb,_,_,_,r1,(hstep _ _ _ _ hinv).post fun v H3 hv=>?_⟩
  rcases hv with ⟨rfl,hv⟩ | ⟨rfl,hv⟩
  .exact ⟨true,rfl,trivial,fun h=>(by cases h),fun _=>⟨min l.length m.length-(i+1),by omega,rfl,rfl,rfl,rfl,rfl,rfl,rfl,rfl,i+1,by rw [wrap64 (by omega) (by omega)]; omega,by omega,rfl,hv⟩⟩
  .exact ⟨false,rfl,trivial,fun _=>hv,fun h=>by cases h⟩
 .have hge:i=min l.length m.length:=by have:=of_decide_eq_false hge; omega
  rw [List.drop_eq_nil_of_le (by omega)] at hinv
  exact hend _ hinv
theorem c67 {kb ko k1b k1o:Nat} {a b:OA} {c d:Nat} {l m:List Tok3} {H:KH} (hl:kold H 3 a l.length=some (tkC l)) (hm:kold H 3 b m.length=some (tkC m))
 (h0:ld H ⟨kb,ko,none⟩ [.slice a l.length c]) (h1:ld H ⟨k1b,k1o,none⟩ [.slice b m.length d]) (hs:l.length<=1000000) (hs':m.length<=1000000) :
 Tells Tryz.prog 67 [.pointer (some ⟨kb,ko,none⟩),.pointer (some ⟨k1b,k1o,none⟩)] (l.reverse.zip m.reverse) H:=by
 intro y Inv H0 Q hle hstep hend hinv0
 have hz:(l.reverse.zip m.reverse).length=min l.length m.length:=by rw [List.length_zip,List.length_reverse,List.length_reverse]
 have g0:=hle _ _ hinv0
 refine fn67 ok ⟨a,_,c,g0.ld h0,b,_,d,g0.ld h1,?_⟩
 unfold vc67_L1
 refine ⟨fun n n4 n5 n6 n7 n8 x9 x10 H11=>n4=y/\n5=kb/\n6=ko/\n7=k1b/\n8=k1o/\x9=((min l.length m.length:Nat):Int)/\∃ i:Nat,x10=i/\i<=min l.length m.length/\n=min l.length m.length-i/\Inv ((l.reverse.zip m.reverse).drop i) H11,⟨_,rfl,rfl,rfl,rfl,rfl,rfl,rfl,by omega,0,rfl,by omega,rfl,hinv0⟩,?_⟩
 rintro n n4 n5 n6 n7 n8 x9 x10 H11 ⟨rfl,rfl,rfl,rfl,rfl,rfl,i,rfl,hi,rfl,hinv⟩
 refine ⟨fun hlt=>?_,fun hge=>?_⟩
 .have hlt:i<min l.length m.length:=by have:=of_decide_eq_true hlt; omega
  have wl:IntKind.wrap .i64 (IntKind.wrap .i64 (((l.length:Nat):Int)-1)-((i:Nat):Int))=((l.length-1-i:Nat):Int):=by
   rw [wrap64 (x:=((l.length:Nat):Int)-1) (by omega) (by omega),wrap64 (by omega) (by omega)]; omega
  have wm:IntKind.wrap .i64 (IntKind.wrap .i64 (((m.length:Nat):Int)-1)-((i:Nat):Int))=((m.length-1-i:Nat):Int):=by
   rw [wrap64 (x:=((m.length:Nat):Int)-1) (by omega) (by omega),wrap64 (by omega) (by omega)]; omega
  have hle1:=hle _ _ hinv
  obtain ⟨b0,o0,ha,r0⟩:=tk_ld3 (hle1.kold hl) (List.getElem?_eq_getElem (show l.length-1-i<l.length by omega))
  obtain ⟨b1,o1,hb,r1⟩:=tk_ld3 (hle1.kold hm) (List.getElem?_eq_getElem (show m.length-1-i<m.length by omega))
  rw [List.drop_eq_getElem_cons (by omega),List.getElem_zip,List.getElem_reverse,List.getElem_reverse] at hinv
  refine ⟨trivial,a,_,c,hle1.ld h0,a,_,c,hle1.ld h0,?_⟩
  rw [wl,Int.toNat_natCast]
  refine ⟨⟨by omega,by omega⟩,b0,o0,ha,_,_,_,r0,b,_,d,hle1.ld h1,b,_,d,hle1.ld h1,?_⟩
  rw [wm,Int.toNat_natCast]
  refine ⟨⟨by omega,by omega⟩,b1,o1,hb,_,_,_,r1,(hstep _ _ _ _ hinv).post fun v H3 hv=>?_⟩
  rcases hv with ⟨rfl,hv⟩ | ⟨rfl,hv⟩
  .exact ⟨true,rfl,trivial,fun h=>(by cases h),fun _=>⟨min l.length m.length-(i+1),by omega,rfl,rfl,rfl,rfl,rfl,rfl,rfl,rfl,i+1,by rw [wrap64 (by omega) (by omega)]; omega,by omega,rfl,hv⟩⟩
  .exact ⟨false,rfl,trivial,fun _=>hv,fun h=>by cases h⟩
 .have hge:i=min l.length m.length:=by have:=of_decide_eq_false hge; omega
  rw [List.drop_eq_nil_of_le (by omega)] at hinv
  exact hend _ hinv
theorem c41 {was is:ByteArray} {mv:Int} {g:Nat} {k:List Value} {ps:List (Tok3 × Tok3)} {H:KH} {Q:PQ} (hwas:was.size<=1000000) (his:is.size<=1000000) (hm : -1000000<=mv/\mv<=1000000)
 (hin:FnIn (env Tryz.prog) g) (hp:∀ x∈ps,InT was.size x.1/\InT is.size x.2) (hlen:ps.length<=1000000) (ht:Tells Tryz.prog g k ps H)
 (hq:∀ H',Le H H'->Q (.int .i64 ((stayM was is mv ps:Nat):Int)) H'):Does (env Tryz.prog) 41 [.agg #[.string was,.string is],.func (.func g) #[] k.toArray,.int .i64 mv] H Q:=by
 refine fn41 ok fun n1 h1 n2 h2 n3 h3=>⟨⟨[.int .i64 0],rfl,⟨rfl,_,if_pos rfl,rd_mk [.int .i64 0] 0⟩⟩,⟨⟨_,if_pos rfl,rfl⟩⟩,hin,fun n6 L7 h6 hR=>?_⟩
 have n21:n2≠n1:=fun z=>by subst z; simp [KH.new] at h2
 have n32:n3≠n2:=fun z=>by subst z; simp [KH.new] at h3
 have n31:n3≠n1:=fun z=>by subst z; simp [KH.new,n21.symm] at h3
 have hH2:H n2=none:=by simpa [KH.new,n21] using h2
 have hH3:H n3=none:=by simpa [KH.new,n32,n31] using h3
 have p3:((((H.new n1 (mkEnt (Array.toList #[Value.string was,Value.string is]) 0)).new n2 (mkEnt [.int .i64 mv] 0)).new n3 (mkEnt [.int .i64 0] 0)).put ⟨n3,0,none⟩ [.int .i64 0]) n3=some ⟨wr (mkEnt [.int .i64 0] 0).cells 0 [.int .i64 0],1,0,none⟩:=by
  simp only [KH.put,KH.new,if_true,Option.map_some]; rfl
 have n63:n6≠n3:=fun z=>by rw [z,p3] at h6; cases h6
 have n62:n6≠n2:=fun z=>by subst z; simp [KH.put,KH.new,n32.symm] at h6
 have n61:n6≠n1:=fun z=>by subst z; simp [KH.put,KH.new,n31.symm,n21.symm] at h6
 have hH6:H n6=none:=by simpa [KH.put,KH.new,n63,n62,n61] using h6
 let Base:KH:=(H.new n1 (mkEnt [.string was,.string is] 0)).new n2 (mkEnt [.int .i64 mv] 0)
 have hBase:Le H Base:=(Le.new h1).trans (Le.new h2)
 have hB1:Base n1=some (mkEnt [.string was,.string is] 0):=by simp only [Base,KH.new]; rw [if_neg n21.symm]; exact if_pos trivial
 have hB2:Base n2=some (mkEnt [.int .i64 mv] 0):=if_pos rfl
 have hB3:Base n3=none:=by simp only [Base,KH.new]; rw [if_neg n32,if_neg n31]; exact hH3
 have hB6:Base n6=none:=by simp only [Base,KH.new]; rw [if_neg n62,if_neg n61]; exact hH6
 have lits:∀ {cs:List Value} {K:KH} {n:Nat},K n=some (mkEnt cs 0)->ld K ⟨n,0,none⟩ cs:=fun {cs K n} hk=>⟨rfl,_,hk,rd_mk cs 0⟩
 have hdel:∀ (K:KH) q e,q≠n6->K q=some e->(K.del n6) q=some e:=fun K q e z1 z2=>by simp only [KH.del]; rw [if_neg z1]; exact z2
 have hDel:∀ {K:KH},Le Base K->Le Base (K.del n6):=fun {K} h q e z=>hdel K q e (fun y=>by rw [y,hB6] at z; cases z) (h q e z)
 have hNew:∀ {K:KH} {e':Ent},Le Base K->Le Base (K.new n6 e'):=fun {K e'} h q e z=>by simp only [KH.new]; rw [if_neg (fun y=>by rw [y,hB6] at z; cases z)]; exact h q e z
 let Inv:List (Tok3 × Tok3)->KH->Prop:=fun r H1=>H1 n6=some (lpE L7 0 none)/\Le Base H1/\(∀ x∈r,x∈ps)/\∃ cnt:Nat,cnt+r.length=ps.length/\cnt+stayM was is mv r=stayM was is mv ps/\∃ e,H1 n3=some e/\wrB e=true/\rd e.cells 0 1=some [.int .i64 ((cnt:Nat):Int)]
 refine ht n6 Inv _ _ (fun r H1 hi=>hBase.trans hi.2.1) (fun o w r H1 hi=>?_) (fun H1 hi=>?_) ?_
 .obtain ⟨g1,g2,g3,cnt,g4,g5,e,e1,e2,e3⟩:=hi
  obtain ⟨ho,hw⟩:=hp (o,w) (g3 _ List.mem_cons_self)
  have hc3:ld (H1.del n6) ⟨n3,0,none⟩ [.int .i64 ((cnt:Nat):Int)]:=⟨rfl,e,hdel _ _ _ n63.symm e1,e3⟩
  have hll:cnt+1<=1000000:=by simp only [List.length_cons] at g4; omega
  have hstay:=stayM_le was is mv r
  refine hR o.1 ((o.2.1:Nat):Int) o.2.2 w.1 ((w.2.1:Nat):Int) w.2.2 H1 _ g1 ⟨was,is,lits (hDel g2 _ _ hB1),mv,lits (hDel g2 _ _ hB2),c65 ok hwas his ho hw hm ⟨_,rfl,fun hs h6'=>?_,fun hs=>?_⟩⟩
  .have hs:sameM was is mv o w=false:=by simpa using hs
   have hz:stayM was is mv ((o,w) :: r)=0:=by unfold stayM; rw [if_neg (by rw [hs]; simp)]
   rw [hz] at g5
   refine .inr ⟨rfl,.inr (.inr ⟨if_pos rfl,_,⟨rfl,e,?_,e3⟩,?_⟩)⟩
   .simp only [KH.del,KH.new]; rw [if_neg n63.symm,if_neg n63.symm,if_neg n63.symm]; exact e1
   .have:cnt=stayM was is mv ps:=by omega
    rw [this]
    exact hq _ (hBase.trans (hDel (hNew (hDel g2))))
  .have hs:sameM was is mv o w=true:=by simpa using hs
   have hz:stayM was is mv ((o,w) :: r)=stayM was is mv r+1:=by conv=>lhs; unfold stayM; rw [if_pos hs]
   rw [hz] at g5
   refine ⟨_,hc3,⟨[.int .i64 ((cnt:Nat):Int)],rfl,hc3⟩,⟨⟨e,hdel _ _ _ n63.symm e1,e2⟩⟩,fun h6'=>.inl ⟨rfl,if_pos rfl,?_,fun x hx=>g3 x (List.mem_cons_of_mem _ hx),cnt+1,by simp only [List.length_cons] at g4; omega,by omega,⟨wr e.cells 0 [.int .i64 ((cnt+1:Nat):Int)],e.len,e.unk,none⟩,?_,wrB_keep e2,?_⟩⟩
   .refine hNew fun q e' z=>?_
    exact put_ne (fun y=>by rw [show q=n3 from y,hB3] at z; cases z) (hDel g2 q e' z)
   .have hw1:IntKind.wrap .i64 (((cnt:Nat):Int)+1)=((cnt+1:Nat):Int):=by rw [wrap64 (by omega) (by omega)]; omega
    rw [hw1]
    simp only [KH.new]
    rw [if_neg n63.symm]
    simp only [KH.put,if_true,hdel _ _ _ n63.symm e1,Option.map_some]
   .have:=rdWr (e:=e.cells) (N:=1) (o:=0) (xs:=[]) (ys:=[.int .i64 ((cnt:Nat):Int)]) (zs:=[]) (vs:=[.int .i64 ((cnt+1:Nat):Int)]) (by simpa using e3) rfl rfl
    simpa using this
 .obtain ⟨g1,g2,g3,cnt,g4,g5,e,e1,e2,e3⟩:=hi
  refine .inl ⟨g1,_,⟨rfl,e,hdel _ _ _ n63.symm e1,e3⟩,?_⟩
  have:cnt=stayM was is mv ps:=by simpa [stayM] using g5
  rw [this]
  exact hq _ (hBase.trans (hDel g2))
 .refine ⟨if_pos rfl,hNew fun q e z=>?_,fun x hx=>hx,0,by omega,by omega,⟨wr (mkEnt [.int .i64 0] 0).cells 0 [.int .i64 0],1,0,none⟩,?_,rfl,?_⟩
  .exact put_ne (fun y=>by rw [show q=n3 from y,hB3] at z; cases z) (by simp only [KH.new]; rw [if_neg (fun y=>by rw [y,hB3] at z; cases z)]; exact z)
  .simp only [KH.new]; rw [if_neg n63.symm]; exact p3
  .rfl
end
end Va
end Go.Proofs.YtfhjkkbaghanhaaGreat
namespace Go.Ew
open Go.Ev Go.Deep
theorem TkR.mono {H H':KH} {rs:List ByteArray} {a:OA} (h:TkR H rs a) (hl:Le H H'):TkR H' rs a:=by
 obtain ⟨cs,h1,h2⟩:=h
 exact ⟨cs,hl.kold h1,h2⟩
def StOk (N:Nat) (st:Int × Int × Bool):Prop:=st.2.2=true->∃ n:Nat,st.2.1=((n:Nat):Int)/\1<=n/\n<=N
theorem lg_len {g:Nat->Int} {L:Nat} {s:ByteArray} (hs:s.size<=1000000):∀ (f i p:Nat) (st:Int × Int × Bool),i+f=s.size->StOk s.size st->StOk s.size (lg g L s f i p st)
 | 0,_,_,st,_,h=>h
 | f+1,i,p,st,hi,h=>by
   unfold lg
   split
   .exact h
   .split
    .exact h
    .refine lg_len hs f (i+1) _ _ (by omega) ?_
     split
     .exact fun _=>⟨i+1,by show IntKind.wrap .i64 _=_; rw [wrap64 (by omega) (by omega)]; omega,by omega,by omega⟩
     .exact h
theorem fst_len {g:Nat->Int} {L:Nat} {w:ByteArray} (hs:w.size<=1000000) (h0:0<w.size):∃ n:Nat,(fstM g L w).2=((n:Nat):Int)/\1<=n/\n<=w.size:=by
 have h:StOk w.size (lgR g L w):=by
  unfold lgR
  split
  .exact fun q=>by cases q
  .exact lg_len hs _ _ _ _ (by omega) fun q=>by cases q
 unfold fstM
 split
 .rename_i q
  exact h q
 .exact ⟨1,rfl,by omega,by omega⟩
theorem splT_size {s p:ByteArray} {a n:Nat} (h:a+n<=s.size):(splT s a n p).size<=s.size+p.size:=by
 have e1:s.data.toList.length=s.size:=by rw [Array.length_toList]; rfl
 have e2:p.data.toList.length=p.size:=by rw [Array.length_toList]; rfl
 show (splT s a n p).data.size<=_
 unfold splT
 simp only [List.size_toArray,List.length_append,List.length_take,List.length_drop,e1,e2]
 omega
theorem Tks.uniq {F:Nat->Int × Int} {N:Nat}:∀ {i:Nat} {r r':List (Int × Nat × Int)},Tks F N i r->Tks F N i r'->r=r'
 | _,_,_,.nil,.nil=>rfl
 | _,_,_,.nil,.cons h1 _ _ _ _=>by omega
 | _,_,_,.cons h1 _ _ _ _,.nil=>by omega
 | _,_,_,.cons h1 h2 h3 h4 hr,.cons k1 k2 k3 k4 kr=>by
   rename_i n r n' r'
   have e:n=n':=by omega
   subst e
   rw [Tks.uniq hr kr]
theorem Tks.inT {F:Nat->Int × Int} {N:Nat}:∀ {i:Nat} {r:List (Int × Nat × Int)},Tks F N i r->∀ x∈r,InT N x
 | _,_,.nil=>fun x hx=>by cases hx
 | _,_,.cons h1 h2 h3 h4 hr=>fun x hx=>by
   rcases List.mem_cons.1 hx with rfl | hx
   .exact ⟨by show (0:Int)<=((_:Nat):Int); omega,by dsimp only; omega⟩
   .exact hr.inT x hx
end Go.Ew
namespace Go.Proofs.YtfhjkkbaghanhaaGreat
open Go.Ev Go.Ew
namespace Va
section
variable (ok : EnvOk (env Tryz.prog))
include ok
theorem c27 {was is:ByteArray} {a b:OA} {c d:Nat} {l m:List Tok3} {H:KH} {Q:PQ} (hwas:was.size<=1000000) (his:is.size<=1000000) (hl:kold H 3 a l.length=some (tkC l)) (hm:kold H 3 b m.length=some (tkC m))
 (hol:SlOk H 3 a l.length c) (hom:SlOk H 3 b m.length d) (il:∀ x∈l,InT was.size x) (im:∀ x∈m,InT is.size x) (sl:l.length<=100000) (sm:m.length<=100000)
 (hq:∀ H',Le H H'->Q (.int .i64 ((keptM was is l m:Nat):Int)) H'):Does (env Tryz.prog) 27 [.agg #[.string was,.string is],.slice a l.length c,.slice b m.length d] H Q:=by
 have lits:∀ {cs:List Value} {K:KH} {n:Nat},K n=some (mkEnt cs 0)->ld K ⟨n,0,none⟩ cs:=fun {cs K n} hk=>⟨rfl,_,hk,rd_mk cs 0⟩
 have news:∀ {K:KH} {n1 n2:Nat} {e1 e2:Ent},K n1=none->(K.new n1 e1) n2=none->((K.new n1 e1).new n2 e2) n1=some e1/\((K.new n1 e1).new n2 e2) n2=some e2:=fun {K n1 n2 e1 e2} h1 h2=>by
  have:n2≠n1:=fun z=>by subst z; simp [KH.new] at h2
  exact ⟨by simp only [KH.new]; rw [if_neg this.symm]; exact if_pos trivial,if_pos rfl⟩
 refine fn27 ok ⟨trivial,fn42 ok fun n1 h1 n2 h2=>⟨66,[.pointer (some ⟨n1,0,none⟩),.pointer (some ⟨n2,0,none⟩)],rfl,⟨rfl,trivial⟩,?_⟩⟩
 have l2:=(Le.new (e:=mkEnt [.slice a l.length c] 0) h1).trans (Le.new (e:=mkEnt [.slice b m.length d] 0) h2)
 obtain ⟨m1,m2⟩:=news (e1:=mkEnt [.slice a l.length c] 0) (e2:=mkEnt [.slice b m.length d] 0) h1 h2
 have hzl:∀ {p q:List Tok3},(p.zip q).length<=p.length:=fun {p q}=>by rw [List.length_zip]; omega
 refine c41 ok hwas his (by omega) ⟨(by kernel_rfl)⟩ (fun x hx=>⟨il _ (List.of_mem_zip hx).1,im _ (List.of_mem_zip hx).2⟩) (by have:=hzl (p:=l) (q:=m); omega)
  (c66 ok (l2.kold hl) (l2.kold hm) (lits m1) (lits m2) (by omega)) fun H6 hl6=>⟨_,rfl,trivial,trivial,?_⟩
 have l6:=l2.trans hl6
 have hf:stayM was is 0 (l.zip m)<=min l.length m.length:=by have:=stayM_le was is 0 (l.zip m); rw [List.length_zip] at this; exact this
 have hfe:frontM was is l m=stayM was is 0 (l.zip m):=rfl
 generalize hg:stayM was is 0 (l.zip m)=f at hf hfe
 obtain ⟨a',c',e1,e2⟩:=cut_hi (hol.mono l6) (l6.kold hl) (show f<=l.length by omega)
 obtain ⟨b',d',e3,e4⟩:=cut_hi (hom.mono l6) (l6.kold hm) (show f<=m.length by omega)
 rw [tkC_drop] at e2 e4
 rw [<- List.length_drop] at e1 e2 e3 e4
 refine ⟨a',_,c',e1,b',_,d',e3,fn43 ok fun k1 g1 k2 g2=>⟨67,[.pointer (some ⟨k1,0,none⟩),.pointer (some ⟨k2,0,none⟩)],rfl,⟨rfl,⟨rfl,rfl⟩,rfl,rfl,⟨rfl,rfl⟩,rfl,rfl,rfl,trivial⟩,?_⟩⟩
 have l7:=(Le.new (e:=mkEnt [.slice a' (l.drop f).length c'] 0) g1).trans (Le.new (e:=mkEnt [.slice b' (m.drop f).length d'] 0) g2)
 obtain ⟨q1,q2⟩:=news (e1:=mkEnt [.slice a' (l.drop f).length c'] 0) (e2:=mkEnt [.slice b' (m.drop f).length d'] 0) g1 g2
 have w1:IntKind.wrap .i64 (((is.size:Nat):Int)-((was.size:Nat):Int))=((is.size:Nat):Int)-((was.size:Nat):Int):=wrap64 (by omega) (by omega)
 rw [w1]
 refine c41 ok hwas his (by omega) ⟨(by kernel_rfl)⟩ (fun x hx=>⟨il _ (List.mem_of_mem_drop (List.mem_reverse.1 (List.of_mem_zip hx).1)),im _ (List.mem_of_mem_drop (List.mem_reverse.1 (List.of_mem_zip hx).2))⟩) (by have:=hzl (p:=(l.drop f).reverse) (q:=(m.drop f).reverse); simp only [List.length_reverse,List.length_drop] at this; omega)
  (c67 ok (l7.kold e2) (l7.kold e4) (lits q1) (lits q2) (by rw [List.length_drop]; omega) (by rw [List.length_drop]; omega)) fun H8 hl8=>⟨_,rfl,trivial,?_⟩
 have hk:keptM was is l m=f+stayM was is (((is.size:Nat):Int)-((was.size:Nat):Int)) ((l.drop f).reverse.zip (m.drop f).reverse):=by unfold keptM endT; rw [hfe]
 have hle:=stayM_le was is (((is.size:Nat):Int)-((was.size:Nat):Int)) ((l.drop f).reverse.zip (m.drop f).reverse)
 have hle2:=hzl (p:=(l.drop f).reverse) (q:=(m.drop f).reverse)
 rw [List.length_reverse,List.length_drop] at hle2
 rw [wrap64 (by omega) (by omega)]
 have:=hq H8 (l6.trans (l7.trans hl8))
 rw [hk] at this
 rw [Int.natCast_add] at this
 exact this
theorem c15 {a b:OA} {c d:Nat} {l m:List Tok3} {H:KH} {Q:PQ} (hl:kold H 3 a l.length=some (tkC l)) (hm:kold H 3 b m.length=some (tkC m)) (sl:l.length<=1000000)
 (hq:Q (.bool (decide (l=m))) H):Does (env Tryz.prog) 15 [.slice a l.length c,.slice b m.length d] H Q:=by
 refine fn15 ok ⟨fun h=>?_,fun h=>?_⟩
 .have h:=of_decide_eq_true h
  rw [decide_eq_false (fun z=>h (by rw [z]))] at hq
  exact hq
 have hlen:l.length=m.length:=by have:=of_decide_eq_false h; omega
 unfold vc15_L1
 refine ⟨fun n a4 n5 n6 a7 n8 n9 x10 H11=>a4=a/\n5=l.length/\a7=b/\n8=m.length/\H11=H/\∃ i:Nat,x10=i/\i<=l.length/\n=l.length-i/\decide (l=m)=decide (l.drop i=m.drop i),⟨_,rfl,rfl,rfl,rfl,rfl,0,rfl,by omega,rfl,by simp⟩,?_⟩
 rintro n a4 n5 n6 a7 n8 n9 x10 H11 ⟨rfl,rfl,rfl,rfl,rfl,i,rfl,hi,rfl,hd⟩
 refine ⟨fun hlt=>?_,fun hge=>?_⟩
 .have hlt:i<l.length:=by have:=of_decide_eq_true hlt; omega
  have e0:Int.toNat ((i:Nat):Int)=i:=by omega
  obtain ⟨b0,o0,ha,r0⟩:=tk_ld3 hl (List.getElem?_eq_getElem hlt)
  obtain ⟨b1,o1,hb,r1⟩:=tk_ld3 hm (List.getElem?_eq_getElem (show i<m.length by omega))
  have hd':decide (l.drop i=m.drop i)=(decide (l[i]=m[i])&&decide (l.drop (i+1)=m.drop (i+1))):=by
   rw [List.drop_eq_getElem_cons hlt,List.drop_eq_getElem_cons (show i<m.length by omega),<- Bool.decide_and]
   exact decide_eq_decide.2 (Iff.of_eq (List.cons.injEq _ _ _ _))
  have hx:decide (l[i]=m[i])=(decide ((l[i]).1=(m[i]).1)&&(decide (((l[i]).2.1:Int)=((m[i]).2.1:Int))&&(decide ((l[i]).2.2=(m[i]).2.2)&&true))):=by
   rw [Bool.and_true,<- Bool.decide_and,<- Bool.decide_and]
   exact decide_eq_decide.2 ⟨fun h=>by rw [h]; exact ⟨rfl,rfl,rfl⟩,fun ⟨h1,h2,h3⟩=>Prod.ext h1 (Prod.ext (by omega) h3)⟩
  rw [e0]
  refine ⟨trivial,⟨by omega,by omega⟩,b0,o0,ha,_,_,_,r0,⟨by omega,by omega⟩,b1,o1,hb,_,_,_,r1,fun h=>?_,fun h=>⟨l.length-(i+1),by omega,rfl,rfl,rfl,rfl,rfl,i+1,by rw [wrap64 (by omega) (by omega)]; omega,by omega,rfl,?_⟩⟩
  .rw [<- hx] at h
   have h:decide (l[i]=m[i])=false:=by simpa using h
   rw [hd,hd',h] at hq
   exact hq
  .rw [<- hx] at h
   have h:decide (l[i]=m[i])=true:=by simpa using h
   rw [hd,hd',h,Bool.true_and]
 .have hge:i=l.length:=by have:=of_decide_eq_false hge; omega
  rw [hd,hge,List.drop_length,hlen,List.drop_length] at hq
  exact hq
end
end Va
end Go.Proofs.YtfhjkkbaghanhaaGreat
namespace Go.Proofs.YtfhjkkbaghanhaaGreat
open Go.Ev Go.Ew
namespace Va
def W12 (P:Program):WE:=⟨env P,tupT,[],mkTab [(0,[.tmp 0 .slice,.tmp 1 .str,.tmp 5 .slice,.tmp 6 (.int .i64)])],12⟩
def vc12_L3 (y1:OA) (y2 y3:Nat) (y4:ByteArray) (y5:KH) (y6:PQ):Prop :=
 (∃ (g:(Nat->OA->Nat->Nat->ByteArray->OA->Nat->Nat->Int->KH->Prop)),(∃ (ah:Nat),g ah y1 y2 y3 y4 none 0 0 0 y5)/\∀ (o:Nat) (h:(OA)) (i j:Nat) (b:ByteArray) (k:(OA)) (l m:Nat) (a:Int) (p:KH),g o h i j b k l m a p->(((decide (a<(((ByteArray.size b):Nat):Int))):Bool)=true->((0:Int)<=a/\a<=(((ByteArray.size b):Nat):Int)/\((((ByteArray.size b):Nat):Int):Int)<=(((ByteArray.size b):Nat):Int))/\Does (env Tryz.prog) 24 [.slice h i j,.string (strCut b a (((ByteArray.size b):Nat):Int))] p fun ai c=>∃ (n d:Int) (q:Bool),ai=(.tuple #[.int .i64 n,.int .i64 d,.bool q])/\((!q)=true->∀ (e:Nat),((c e):(Option (Ent)))=none->∀ (r:Nat),(((KH.new c e (mkEnt [.int .i64 (-1),.int .i64 a,.int .i64 1] 0)) r):(Option (Ent)))=none->∃ (s:Nat) (t:(List Value)),((knew (KH.new c e (mkEnt [.int .i64 (-1),.int .i64 a,.int .i64 1] 0)) ⟨3,24,true,3,0,0,[(0,1),(1,1),(2,1)],[.int .i64 0,.int .i64 0,.int .i64 0]⟩ (.slice (some ⟨e,0,none⟩) 1 1)):(Option (Nat × (List Value))))=(some (s,t))/\∃ (u:(OA)) (v w:Nat) (x:KH),((kappend (KH.new c e (mkEnt [.int .i64 (-1),.int .i64 a,.int .i64 1] 0)) r ⟨3,24,true,3,0,0,[(0,1),(1,1),(2,1)],[.int .i64 0,.int .i64 0,.int .i64 0]⟩ k l m s t):(Option (Value × KH)))=(some (.slice u v w,x))/\∃ (y:Nat),(y:Nat)<o/\g y h i j b u v w (IntKind.wrap .i64 (a+1)) x)/\((!q)=false->∀ (f:Nat),((c f):(Option (Ent)))=none->∀ (z:Nat),(((KH.new c f (mkEnt [.int .i64 n,.int .i64 a,.int .i64 d] 0)) z):(Option (Ent)))=none->∃ (aa:Nat) (ab:(List Value)),((knew (KH.new c f (mkEnt [.int .i64 n,.int .i64 a,.int .i64 d] 0)) ⟨3,24,true,3,0,0,[(0,1),(1,1),(2,1)],[.int .i64 0,.int .i64 0,.int .i64 0]⟩ (.slice (some ⟨f,0,none⟩) 1 1)):(Option (Nat × (List Value))))=(some (aa,ab))/\∃ (ac:(OA)) (ad ae:Nat) (af:KH),((kappend (KH.new c f (mkEnt [.int .i64 n,.int .i64 a,.int .i64 d] 0)) z ⟨3,24,true,3,0,0,[(0,1),(1,1),(2,1)],[.int .i64 0,.int .i64 0,.int .i64 0]⟩ k l m aa ab):(Option (Value × KH)))=(some (.slice ac ad ae,af))/\∃ (ag:Nat),(ag:Nat)<o/\g ag h i j b ac ad ae (IntKind.wrap .i64 (a+d)) af))/\(((decide (a<(((ByteArray.size b):Nat):Int))):Bool)=false->y6 (.slice k l m) p))
def vc12 (p0:OA) (p0n p0c:Nat) (p1:ByteArray) (H:KH) (Q:PQ):Prop :=
 (vc12_L3 p0 p0n p0c p1 H Q)
theorem fn12 (ok:EnvOk (env Tryz.prog)) {p0:OA} {p0n p0c:Nat} {p1:ByteArray} {H:KH} {Q:PQ} (h:vc12 p0 p0n p0c p1 H Q):Does (env Tryz.prog) 12 [.slice p0 p0n p0c,.string p1] H Q :=
 wFun_sound (W:=W12 Tryz.prog) ok.tt (blt_lt (by kernel_rfl)) (ff_of ok (by kernel_rfl) Tryz.func12) (Eq.mpr (by kernel_rfl) h)
def W14 (P:Program):WE:=⟨env P,tupT,[3],mkTab [],14⟩
def vc14 (p0:ByteArray) (p1_0 p1_1:Int) (p1_2:ByteArray) (H:KH) (Q:PQ):Prop :=
 Does (env Tryz.prog) 28 [.int .i64 (((ByteArray.size p0):Nat):Int),.agg #[.int .i64 p1_0,.int .i64 p1_1,.string p1_2]] H fun c b=>∃ (a:Bool),c=(.bool a)/\((!a)=true->Q (.tuple #[.string (ByteArray.mk #[]),.bool false]) b)/\((!a)=false->True/\((0:Int)<=0/\(0:Int)<=p1_0/\p1_0<=(((ByteArray.size p0):Nat):Int))/\(((ByteArray.size (strCut p0 0 p1_0))+(ByteArray.size p1_2)):Nat)<=1000000/\((0:Int)<=(IntKind.wrap .i64 (p1_0+p1_1))/\((IntKind.wrap .i64 (p1_0+p1_1)):Int)<=(((ByteArray.size p0):Nat):Int)/\((((ByteArray.size p0):Nat):Int):Int)<=(((ByteArray.size p0):Nat):Int))/\(((ByteArray.size ((strCut p0 0 p1_0)++p1_2))+(ByteArray.size (strCut p0 (IntKind.wrap .i64 (p1_0+p1_1)) (((ByteArray.size p0):Nat):Int)))):Nat)<=1000000/\Q (.tuple #[.string (((strCut p0 0 p1_0)++p1_2)++(strCut p0 (IntKind.wrap .i64 (p1_0+p1_1)) (((ByteArray.size p0):Nat):Int))),.bool true]) b)
theorem fn14 (ok:EnvOk (env Tryz.prog)) {p0:ByteArray} {p1_0 p1_1:Int} {p1_2:ByteArray} {H:KH} {Q:PQ} (h:vc14 p0 p1_0 p1_1 p1_2 H Q):Does (env Tryz.prog) 14 [.string p0,.agg #[.int .i64 p1_0,.int .i64 p1_1,.string p1_2]] H Q :=
 wFun_sound (W:=W14 Tryz.prog) ok.tt (blt_lt (by kernel_rfl)) (ff_of ok (by kernel_rfl) Tryz.func14) (Eq.mpr (by kernel_rfl) h)
def W16 (P:Program):WE:=⟨env P,tupT,[11,12],mkTab [(2,[.tmp 0 .str,.tmp 1 .slice,.tmp 2 .str,.tmp 3 .slice,.tmp 9 (.int .i64),.tmp 10 (.int .i64)]),(0,[.tmp 0 .str,.tmp 1 .slice,.tmp 2 .str,.tmp 3 .slice,.tmp 9 (.int .i64)])],16⟩
def vc16_L1 (y1:ByteArray) (y2:OA) (y3 y4:Nat) (y5:ByteArray) (y6:OA) (y7 y8:Nat) (y9:Int) (y10:KH) (y11:PQ):Prop :=
 (∃ (q:(Nat->ByteArray->OA->Nat->Nat->ByteArray->OA->Nat->Nat->Int->Int->KH->Prop)),(∃ (ad:Nat),q ad y1 y2 y3 y4 y5 y6 y7 y8 y9 0 y10)/\∀ (t:Nat) (j:ByteArray) (r:(OA)) (g u:Nat) (k:ByteArray) (h:(OA)) (b m:Nat) (c a:Int) (e:KH),q t j r g u k h b m c a e->(((decide (((IntKind.wrap .i64 (c+a)):Int)<(g:Int))):Bool)=true->(((decide (((IntKind.wrap .i64 (c+a)):Int)<(b:Int))):Bool)=true->True/\((0:Int)<=(IntKind.wrap .i64 ((IntKind.wrap .i64 ((g:Int)-1))-a))/\((IntKind.wrap .i64 ((IntKind.wrap .i64 ((g:Int)-1))-a)):Int)<(g:Int))/\∃ (v w:Nat),r=some ⟨v,w,none⟩/\∃ (s f l:Int),ld e ⟨v,w+((Int.toNat (IntKind.wrap .i64 ((IntKind.wrap .i64 ((g:Int)-1))-a)))*3),none⟩ [.int .i64 s,.int .i64 f,.int .i64 l]/\((0:Int)<=(IntKind.wrap .i64 ((IntKind.wrap .i64 ((b:Int)-1))-a))/\((IntKind.wrap .i64 ((IntKind.wrap .i64 ((b:Int)-1))-a)):Int)<(b:Int))/\∃ (n o:Nat),h=some ⟨n,o,none⟩/\∃ (p d i:Int),ld e ⟨n,o+((Int.toNat (IntKind.wrap .i64 ((IntKind.wrap .i64 ((b:Int)-1))-a)))*3),none⟩ [.int .i64 p,.int .i64 d,.int .i64 i]/\(((.slice h b m):Value)=(.slice h b m)/\((.slice h b m):Value)=(.slice h b m)/\((.int .i64 (b:Int)):Value)=(.int .i64 (b:Int))/\((.int .i64 (IntKind.wrap .i64 ((b:Int)-1))):Value)=(.int .i64 (IntKind.wrap .i64 ((b:Int)-1)))/\((.int .i64 a):Value)=(.int .i64 a)/\((.int .i64 (IntKind.wrap .i64 ((IntKind.wrap .i64 ((b:Int)-1))-a))):Value)=(.int .i64 (IntKind.wrap .i64 ((IntKind.wrap .i64 ((b:Int)-1))-a)))/\(((0:Int)<=(IntKind.wrap .i64 ((IntKind.wrap .i64 ((b:Int)-1))-a))/\((IntKind.wrap .i64 ((IntKind.wrap .i64 ((b:Int)-1))-a)):Int)<(b:Int))/\∃ (x y:Nat),h=some ⟨x,y,none⟩/\((.pointer (some ⟨x,y+((Int.toNat (IntKind.wrap .i64 ((IntKind.wrap .i64 ((b:Int)-1))-a)))*3),none⟩)):Value)=(.pointer (some ⟨n,o+((Int.toNat (IntKind.wrap .i64 ((IntKind.wrap .i64 ((b:Int)-1))-a)))*3),none⟩)))/\(∃ (z aa ab:Int),ld e ⟨n,o+((Int.toNat (IntKind.wrap .i64 ((IntKind.wrap .i64 ((b:Int)-1))-a)))*3),none⟩ [.int .i64 z,.int .i64 aa,.int .i64 ab]/\((.agg #[.int .i64 z,.int .i64 aa,.int .i64 ab]):Value)=(.agg #[.int .i64 p,.int .i64 d,.int .i64 i]))/\True)/\True/\True/\(decide (s≠p)=true->y11 (.int .i64 (IntKind.wrap .i64 (c+a))) e)/\(decide (s≠p)=false->(decide (l≠i)=true->y11 (.int .i64 (IntKind.wrap .i64 (c+a))) e)/\(decide (l≠i)=false->(((decide (((IntKind.wrap .i64 (d-f)):Int)≠(IntKind.wrap .i64 ((((ByteArray.size k):Nat):Int)-(((ByteArray.size j):Nat):Int))))):Bool)=true->y11 (.int .i64 (IntKind.wrap .i64 (c+a))) e)/\(((decide (((IntKind.wrap .i64 (d-f)):Int)≠(IntKind.wrap .i64 ((((ByteArray.size k):Nat):Int)-(((ByteArray.size j):Nat):Int))))):Bool)=false->((0:Int)<=f/\f<=(IntKind.wrap .i64 (f+l))/\((IntKind.wrap .i64 (f+l)):Int)<=(((ByteArray.size j):Nat):Int))/\((0:Int)<=d/\d<=(IntKind.wrap .i64 (d+i))/\((IntKind.wrap .i64 (d+i)):Int)<=(((ByteArray.size k):Nat):Int))/\(((!(strEq (strCut j f (IntKind.wrap .i64 (f+l))) (strCut k d (IntKind.wrap .i64 (d+i))))):Bool)=true->y11 (.int .i64 (IntKind.wrap .i64 (c+a))) e)/\(((!(strEq (strCut j f (IntKind.wrap .i64 (f+l))) (strCut k d (IntKind.wrap .i64 (d+i))))):Bool)=false->∃ (ac:Nat),(ac:Nat)<t/\q ac j r g u k h b m c (IntKind.wrap .i64 (a+1)) e)))))/\(((decide (((IntKind.wrap .i64 (c+a)):Int)<(b:Int))):Bool)=false->y11 (.int .i64 (IntKind.wrap .i64 (c+a))) e))/\(((decide (((IntKind.wrap .i64 (c+a)):Int)<(g:Int))):Bool)=false->y11 (.int .i64 (IntKind.wrap .i64 (c+a))) e))
def vc16_L2 (y1:ByteArray) (y2:OA) (y3 y4:Nat) (y5:ByteArray) (y6:OA) (y7 y8:Nat) (y9:KH) (y10:PQ):Prop :=
 (∃ (q:(Nat->ByteArray->OA->Nat->Nat->ByteArray->OA->Nat->Nat->Int->KH->Prop)),(∃ (ap:Nat),q ap y1 y2 y3 y4 y5 y6 y7 y8 0 y9)/\∀ (x:Nat) (g:ByteArray) (e:(OA)) (c i:Nat) (h:ByteArray) (f:(OA)) (d j:Nat) (a:Int) (b:KH),q x g e c i h f d j a b->True/\(decide (a<(c:Int))=true->(decide (a<(d:Int))=true->((0:Int)<=a/\a<(c:Int))/\∃ (y z:Nat),e=some ⟨y,z,none⟩/\∃ (r s t:Int),ld b ⟨y,z+((Int.toNat a)*3),none⟩ [.int .i64 r,.int .i64 s,.int .i64 t]/\((0:Int)<=a/\a<(d:Int))/\∃ (aa ab:Nat),f=some ⟨aa,ab,none⟩/\∃ (u v w:Int),ld b ⟨aa,ab+((Int.toNat a)*3),none⟩ [.int .i64 u,.int .i64 v,.int .i64 w]/\((((decide (r=u))&&((decide (s=v))&&((decide (t=w))&&true))):Bool)=true->((0:Int)<=a/\a<(c:Int))/\∃ (ac ad:Nat),e=some ⟨ac,ad,none⟩/\(none:(Option Nat))=none/\∃ (k:Int),ld b ⟨ac,(ad+((Int.toNat a)*3))+1,none⟩ [(.int .i64 k)]/\((0:Int)<=a/\a<(c:Int))/\∃ (ae af:Nat),e=some ⟨ae,af,none⟩/\(none:(Option Nat))=none/\∃ (l:Int),ld b ⟨ae,(af+((Int.toNat a)*3))+1,none⟩ [(.int .i64 l)]/\((0:Int)<=a/\a<(c:Int))/\∃ (ag ah:Nat),e=some ⟨ag,ah,none⟩/\(none:(Option Nat))=none/\∃ (m:Int),ld b ⟨ag,(ah+((Int.toNat a)*3))+2,none⟩ [(.int .i64 m)]/\((0:Int)<=k/\k<=(IntKind.wrap .i64 (l+m))/\((IntKind.wrap .i64 (l+m)):Int)<=(((ByteArray.size g):Nat):Int))/\((0:Int)<=a/\a<(d:Int))/\∃ (ai aj:Nat),f=some ⟨ai,aj,none⟩/\(none:(Option Nat))=none/\∃ (n:Int),ld b ⟨ai,(aj+((Int.toNat a)*3))+1,none⟩ [(.int .i64 n)]/\((0:Int)<=a/\a<(d:Int))/\∃ (ak al:Nat),f=some ⟨ak,al,none⟩/\(none:(Option Nat))=none/\∃ (o:Int),ld b ⟨ak,(al+((Int.toNat a)*3))+1,none⟩ [(.int .i64 o)]/\((0:Int)<=a/\a<(d:Int))/\∃ (am an:Nat),f=some ⟨am,an,none⟩/\(none:(Option Nat))=none/\∃ (p:Int),ld b ⟨am,(an+((Int.toNat a)*3))+2,none⟩ [(.int .i64 p)]/\((0:Int)<=n/\n<=(IntKind.wrap .i64 (o+p))/\((IntKind.wrap .i64 (o+p)):Int)<=(((ByteArray.size h):Nat):Int))/\(((strEq (strCut g k (IntKind.wrap .i64 (l+m))) (strCut h n (IntKind.wrap .i64 (o+p)))):Bool)=true->∃ (ao:Nat),(ao:Nat)<x/\q ao g e c i h f d j (IntKind.wrap .i64 (a+1)) b)/\(((strEq (strCut g k (IntKind.wrap .i64 (l+m))) (strCut h n (IntKind.wrap .i64 (o+p)))):Bool)=false->vc16_L1 g e c i h f d j a b y10))/\((((decide (r=u))&&((decide (s=v))&&((decide (t=w))&&true))):Bool)=false->vc16_L1 g e c i h f d j a b y10))/\(decide (a<(d:Int))=false->vc16_L1 g e c i h f d j a b y10))/\(decide (a<(c:Int))=false->vc16_L1 g e c i h f d j a b y10))
def vc16 (p0:ByteArray) (p1:OA) (p1n p1c:Nat) (p2:ByteArray) (p3:OA) (p3n p3c:Nat) (H:KH) (Q:PQ):Prop :=
 (vc16_L2 p0 p1 p1n p1c p2 p3 p3n p3c H Q)
theorem fn16 (ok:EnvOk (env Tryz.prog)) {p0:ByteArray} {p1:OA} {p1n p1c:Nat} {p2:ByteArray} {p3:OA} {p3n p3c:Nat} {H:KH} {Q:PQ} (h:vc16 p0 p1 p1n p1c p2 p3 p3n p3c H Q):Does (env Tryz.prog) 16 [.string p0,.slice p1 p1n p1c,.string p2,.slice p3 p3n p3c] H Q :=
 wFun_sound (W:=W16 Tryz.prog) ok.tt (blt_lt (by kernel_rfl)) (ff_of ok (by kernel_rfl) Tryz.func16) (Eq.mpr (by kernel_rfl) h)
def W28 (P:Program):WE:=⟨env P,tupT,[3],mkTab [],28⟩
def vc28 (p0 p1_0 p1_1:Int) (p1_2:ByteArray) (H:KH) (Q:PQ):Prop :=
 ((decide ((0:Int)<=p1_0)=true->(decide (p1_0<=p0)=true->(decide ((0:Int)<=p1_1)=true->Q (.bool (decide (p1_1<=(IntKind.wrap .i64 (p0-p1_0))))) H)/\(decide ((0:Int)<=p1_1)=false->Q (.bool false) H))/\(decide (p1_0<=p0)=false->Q (.bool false) H))/\(decide ((0:Int)<=p1_0)=false->Q (.bool false) H))
theorem fn28 (ok:EnvOk (env Tryz.prog)) {p0 p1_0 p1_1:Int} {p1_2:ByteArray} {H:KH} {Q:PQ} (h:vc28 p0 p1_0 p1_1 p1_2 H Q):Does (env Tryz.prog) 28 [.int .i64 p0,.agg #[.int .i64 p1_0,.int .i64 p1_1,.string p1_2]] H Q :=
 wFun_sound (W:=W28 Tryz.prog) ok.tt (blt_lt (by kernel_rfl)) (ff_of ok (by kernel_rfl) Tryz.func28) (Eq.mpr (by kernel_rfl) h)
def W3 (P:Program):WE:=⟨env P,tupT,[],mkTab [(0,[.tmp 2 .slice,.tmp 8 .str,.tmp 9 .slice,.tmp 11 .slice,.tmp 13 .slice,.tmp 14 (.int .i64)])],3⟩
def vc3_L4 (y1:OA) (y2 y3:Nat) (y4:ByteArray) (y5:OA) (y6 y7:Nat) (y8:OA) (y9 y10:Nat) (y11:OA) (y12 y13:Nat) (y14:KH) (y15:PQ):Prop :=
 (∃ (j:(Nat->OA->Nat->Nat->ByteArray->OA->Nat->Nat->OA->Nat->Nat->OA->Nat->Nat->Int->KH->Prop)),(∃ (az:Nat),j az y1 y2 y3 y4 y5 y6 y7 y8 y9 y10 y11 y12 y13 0 y14)/\∀ (x:Nat) (c:(OA)) (b y:Nat) (g:ByteArray) (k:(OA)) (l m:Nat) (n:(OA)) (o p:Nat) (q:(OA)),∀ (r s:Nat) (a:Int) (d:KH),j x c b y g k l m n o p q r s a d->(decide (a<(b:Int))=true->((0:Int)<=a/\a<(b:Int))/\∃ (ae af:Nat),c=some ⟨ae,af,none⟩/\(none:(Option Nat))=none/\∃ (z:ByteArray),ld d ⟨ae,(af+((Int.toNat a)*3))+2,none⟩ [(.string z)]/\(((decide ((20:Int)<(((ByteArray.size z):Nat):Int))):Bool)=true->y15 (.bool true) d)/\(((decide ((20:Int)<(((ByteArray.size z):Nat):Int))):Bool)=false->((0:Int)<=a/\a<(b:Int))/\∃ (ag ah:Nat),c=some ⟨ag,ah,none⟩/\∃ (ai aj:Int) (ak:ByteArray),ld d ⟨ag,ah+((Int.toNat a)*3),none⟩ [.int .i64 ai,.int .i64 aj,.string ak]/\Does (env Tryz.prog) 13 [.slice n o p,.string g,.slice q r s,.agg #[.int .i64 ai,.int .i64 aj,.string ak]] d fun ba aw=>∃ (aa:ByteArray) (al:(OA)) (t am:Nat) (h:Int) (ab:Bool),ba=(.tuple #[.string aa,.slice al t am,.int .i64 h,.bool ab])/\((0:Int)<=a/\a<(b:Int))/\∃ (an ao:Nat),c=some ⟨an,ao,none⟩/\∃ (ap aq:Int) (ar:ByteArray),ld aw ⟨an,ao+((Int.toNat a)*3),none⟩ [.int .i64 ap,.int .i64 aq,.string ar]/\Does (env Tryz.prog) 14 [.string g,.agg #[.int .i64 ap,.int .i64 aq,.string ar]] aw fun bb f=>∃ (e:ByteArray) (i:Bool),bb=(.tuple #[.string e,.bool i])/\(((!(ab == i)):Bool)=true->y15 (.bool false) f)/\(((!(ab == i)):Bool)=false->(((!(strEq aa e)):Bool)=true->y15 (.bool false) f)/\(((!(strEq aa e)):Bool)=false->((!i)=true->(decide ((0:Int)<(t:Int))=true->y15 (.bool false) f)/\(decide ((0:Int)<(t:Int))=false->(decide (h≠0)=true->y15 (.bool false) f)/\(decide (h≠0)=false->∃ (au:Nat),(au:Nat)<x/\j au c b y g k l m n o p q r s (IntKind.wrap .i64 (a+1)) f)))/\((!i)=false->Does (env Tryz.prog) 12 [.slice k l m,.string e] f fun bc bd=>∃ (u:(OA)) (v w:Nat),bc=(.slice u v w)/\Does (env Tryz.prog) 15 [.slice al t am,.slice u v w] bd fun be ax=>∃ (ac:Bool),be=(.bool ac)/\((!ac)=true->y15 (.bool false) ax)/\((!ac)=false->Does (env Tryz.prog) 16 [.string g,.slice q r s,.string e,.slice u v w] ax fun bf ay=>∃ (ad:Int),bf=(.int .i64 ad)/\(decide (h≠ad)=true->y15 (.bool false) ay)/\(decide (h≠ad)=false->∃ (av:Nat),(av:Nat)<x/\j av c b y e k l m n o p u v w (IntKind.wrap .i64 (a+1)) ay)))))))/\(decide (a<(b:Int))=false->y15 (.bool true) d))
def vc3 (p0:OA) (p0n p0c:Nat) (p1:OA) (p1n p1c:Nat) (p2:OA) (p2n p2c:Nat) (H:KH) (Q:PQ):Prop :=
 Does (env Tryz.prog) 5 [] H fun v a=>∃ (e:Bool),v=(.bool e)/\((!e)=true->Q (.bool false) a)/\((!e)=false->(decide ((60:Int)<(p0n:Int))=true->Q (.bool true) a)/\(decide ((60:Int)<(p0n:Int))=false->(decide ((30:Int)<(p1n:Int))=true->Q (.bool true) a)/\(decide ((30:Int)<(p1n:Int))=false->(decide ((10:Int)<(p2n:Int))=true->Q (.bool true) a)/\(decide ((10:Int)<(p2n:Int))=false->Does (env Tryz.prog) 6 [(.slice p0 p0n p0c)] a fun w x=>∃ (k l:Nat),w=(.pointer (some ⟨k,l,none⟩))/\Does (env Tryz.prog) 7 [(.pointer (some ⟨k,l,none⟩))] x fun y z=>∃ (f:(OA)) (g h:Nat),y=(.slice f g h)/\Does (env Tryz.prog) 8 [(.slice p1 p1n p1c)] z fun aa ab=>∃ (i:ByteArray),aa=(.string i)/\Does (env Tryz.prog) 9 [(.slice f g h)] ab fun ac ad=>∃ (b:(OA)) (c d:Nat) (u:Bool),ac=(.tuple #[.slice b c d,.bool u])/\Does (env Tryz.prog) 10 [(.slice f g h)] ad fun ae t=>∃ (m:(OA)) (n o:Nat) (j:Bool),ae=(.tuple #[.slice m n o,.bool j])/\((!j)=true->Does (env Tryz.prog) 11 [(.slice b c d)] t fun af ag=>∃ (p:Bool),af=(.bool p)/\Q (.bool (!p)) ag)/\((!j)=false->Does (env Tryz.prog) 12 [.slice b c d,.string i] t fun ah ai=>∃ (q:(OA)) (r s:Nat),ah=(.slice q r s)/\vc3_L4 p2 p2n p2c i b c d m n o q r s ai Q)))))
theorem fn3 (ok:EnvOk (env Tryz.prog)) {p0:OA} {p0n p0c:Nat} {p1:OA} {p1n p1c:Nat} {p2:OA} {p2n p2c:Nat} {H:KH} {Q:PQ} (h:vc3 p0 p0n p0c p1 p1n p1c p2 p2n p2c H Q):Does (env Tryz.prog) 3 [.slice p0 p0n p0c,.slice p1 p1n p1c,.slice p2 p2n p2c] H Q :=
 wFun_sound (W:=W3 Tryz.prog) ok.tt (blt_lt (by kernel_rfl)) (ff_of ok (by kernel_rfl) Tryz.func3) (Eq.mpr (by kernel_rfl) h)
end Va
end Go.Proofs.YtfhjkkbaghanhaaGreat
namespace Go.Ew
open Go.Ev Go.Deep
theorem fst_spec {pats:List (List It)} (hpar:∀ l∈pats,∃ s,parseR s=some l) (hp:pats.length<=50) {ts:List ByteArray} {g:Nat->Int} (hk:KsOk (nfaM pats) ts) (hC:RowsC (nfaM pats) ts g ts.length) {w:ByteArray} (hw:w.size<=1000000) (h0:0<w.size) :
 ∃ k j n:Nat,LgSpec (Has pats w) w.size (((k:Nat):Int),((j:Nat):Int),decide (0<j))/\(fstM g ts.length w).2=((n:Nat):Int)/\1<=n/\n<=w.size/\((0<j/\(fstM g ts.length w).1=((k:Nat):Int)/\n=j/\k<pats.length)\/(j=0/\(fstM g ts.length w).1 = -1/\n=1)):=by
 obtain ⟨k,j,h1,h2,h3⟩:=rows_spec hpar hp hk hC hw
 unfold fstM
 rw [h1]
 by_cases hj:0<j
 .have hd:decide (0<j)=true:=decide_eq_true hj
  have hkl:k<pats.length:=by
   rw [hd] at h2
   generalize hr:(((k:Nat):Int),((j:Nat):Int),true)=r at h2
   cases h2 with
   | no h=>cases hr
   | yes k' j' q1 q2 q3 q4 q5 =>
     have:((k:Nat):Int)=((k':Nat):Int):=congrArg (·.1) hr
     obtain ⟨l,z,_⟩:=q3
     have hk':k'=k:=by omega
     subst hk'
     rcases Nat.lt_or_ge k' pats.length with y | y
     .exact y
     .rw [List.getElem?_eq_none y] at z; cases z
  refine ⟨k,j,j,h2,?_,by omega,h3,.inl ⟨hj,?_,rfl,hkl⟩⟩
  .simp only [hd,if_true]
  .simp only [hd,if_true]
 .have hd:decide (0<j)=false:=decide_eq_false hj
  refine ⟨k,j,1,h2,?_,by omega,by omega,.inr ⟨by omega,?_,rfl⟩⟩
  .simp [hd]
  .simp [hd]
theorem splT_cat {s p:ByteArray} {a n:Nat} (h:a+n<=s.size):((strCut s 0 ((a:Nat):Int))++p)++strCut s (((a:Nat):Int)+((n:Nat):Int)) ((s.size:Nat):Int)=splT s a n p:=by
 have hl:s.data.toList.length=s.size:=by rw [Array.length_toList]; rfl
 have e:(((a:Nat):Int)+((n:Nat):Int)).toNat=a+n:=by omega
 unfold splT strCut
 apply ByteArray.ext
 apply Array.toList_inj.1
 simp only [ByteArray.data_append,Array.toList_append,ByteArray.data_extract,Array.toList_extract,e,Int.toNat_natCast]
 rw [List.extract_eq_take_drop,List.extract_eq_take_drop,List.take_of_length_le (l:=List.drop (a+n) _) (by rw [List.length_drop]; omega)]
 simp
end Go.Ew
namespace Go.Proofs.YtfhjkkbaghanhaaGreat
open Go.Ev Go.Ew
namespace Va
section
variable (ok : EnvOk (env Tryz.prog))
include ok
theorem c28 {p0 p1:Int} {p:ByteArray} {N:Nat} {H:KH} {Q:PQ} (h0:p0<9223372036854775808) (hN:N<=1000000) (hq:Q (.bool (decide (0<=p0/\0<=p1/\p1+p0<=((N:Nat):Int)))) H):Does (env Tryz.prog) 28 [.int .i64 ((N:Nat):Int),.agg #[.int .i64 p0,.int .i64 p1,.string p]] H Q:=by
 refine fn28 ok ⟨fun q0=>⟨fun q2=>⟨fun q1=>?_,fun q1=>?_⟩,fun q2=>?_⟩,fun q0=>?_⟩
 .have q0:=of_decide_eq_true q0
  have q1:=of_decide_eq_true q1
  have q2:=of_decide_eq_true q2
  rw [wrap64 (by omega) (by omega)]
  have e:(decide (0<=p0/\0<=p1/\p1+p0<=((N:Nat):Int)))=decide (p1<=((N:Nat):Int)-p0):=decide_eq_decide.2 ⟨fun h=>by omega,fun h=>by omega⟩
  rw [e] at hq
  exact hq
 .have q1:=of_decide_eq_false q1
  rw [decide_eq_false (by omega)] at hq
  exact hq
 .have q2:=of_decide_eq_false q2
  rw [decide_eq_false (by omega)] at hq
  exact hq
 .have q0:=of_decide_eq_false q0
  rw [decide_eq_false (by omega)] at hq
  exact hq
theorem c14 {p0 p1:Int} {s p:ByteArray} {H:KH} {Q:PQ} (h0:p0<9223372036854775808) (hs:s.size<=10000) (hp:p.size<=10000)
 (hno:¬ (0<=p0/\0<=p1/\p1+p0<=((s.size:Nat):Int))->Q (.tuple #[.string ⟨#[]⟩,.bool false]) H) (hq:∀ x n:Nat,p0=x->p1=n->x+n<=s.size->Q (.tuple #[.string (splT s x n p),.bool true]) H) :
 Does (env Tryz.prog) 14 [.string s,.agg #[.int .i64 p0,.int .i64 p1,.string p]] H Q:=by
 refine fn14 ok (c28 ok h0 (by omega) ⟨_,rfl,fun h=>hno fun z=>?_,fun h=>?_⟩)
 .rw [decide_eq_true z] at h; cases h
 have h:0<=p0/\0<=p1/\p1+p0<=((s.size:Nat):Int):=of_decide_eq_true (by simpa using h)
 obtain ⟨x,rfl⟩:=Int.eq_ofNat_of_zero_le h.1
 obtain ⟨n,rfl⟩:=Int.eq_ofNat_of_zero_le h.2.1
 have hw:IntKind.wrap .i64 (((x:Nat):Int)+((n:Nat):Int))=((x:Nat):Int)+((n:Nat):Int):=wrap64 (by omega) (by omega)
 rw [hw,splT_cat (by omega)]
 have s1:(strCut s 0 ((x:Nat):Int)).size<=s.size:=by unfold strCut; rw [ByteArray.size_extract]; omega
 have s2:(strCut s (((x:Nat):Int)+((n:Nat):Int)) ((s.size:Nat):Int)).size<=s.size:=by unfold strCut; rw [ByteArray.size_extract]; omega
 refine ⟨trivial,⟨by omega,by omega,by omega⟩,by omega,⟨by omega,by omega,by omega⟩,?_,hq x n rfl rfl (by omega)⟩
 rw [ByteArray.size_append]; omega
theorem c12 {pats:List (List It)} {ts:List ByteArray} {g:Nat->Int} {a:OA} {c:Nat} {s:ByteArray} {H:KH} {Q:PQ} (hpar:∀ l∈pats,∃ s,parseR s=some l) (hp:pats.length<=50) (hk:KsOk (nfaM pats) ts) (hC:RowsC (nfaM pats) ts g ts.length)
 (hP:PtR H pats a) (hs:s.size<=400) (hq:∀ l a' c' ex H',Tks (fun i=>fstM g ts.length (fromB s i)) s.size 0 l->Le H H'->Gr H' 3 a' l.length c' (tkC l) ex->Q (.slice a' l.length c') H'):Does (env Tryz.prog) 12 [.slice a pats.length c,.string s] H Q:=by
 have hF:∀ i,i<s.size->∃ n:Nat,(fstM g ts.length (fromB s i)).2=((n:Nat):Int)/\1<=n/\i+n<=s.size:=fun i hi=>by
  have hsi:=fromB_size (s:=s) (i:=i) (by omega)
  obtain ⟨n,q1,q2,q3⟩:=fst_len (g:=g) (L:=ts.length) (w:=fromB s i) (by omega) (by omega)
  exact ⟨n,q1,q2,by omega⟩
 obtain ⟨all,hall⟩:=Tks.ex hF (s.size-0) 0 rfl (by omega)
 have hlen:=hall.len
 refine fn12 ok ?_
 unfold vc12 vc12_L3
 refine ⟨fun n a4 n5 n6 s7 a8 n9 n10 x11 H12=>a4=a/\n5=pats.length/\s7=s/\Le H H12/\∃ (i:Nat) (dn r:List Tok3) (ex:List Value),x11=i/\i<=s.size/\n=s.size-i/\n9=dn.length/\Gr H12 3 a8 dn.length n10 (tkC dn) ex/\(∀ b,blk a8=some b->H b=none)/\Tks (fun i=>fstM g ts.length (fromB s i)) s.size i r/\dn++r=all,
  ⟨_,rfl,rfl,rfl,Le.refl _,0,[],all,[],rfl,by omega,rfl,rfl,.nil,(fun b q=>by cases q),hall,rfl⟩,?_⟩
 rintro n a4 n5 n6 s7 a8 n9 n10 x11 H12 ⟨rfl,rfl,rfl,hle,i,dn,r,ex,rfl,hi,rfl,rfl,hG,hout,ht,hcat⟩
 have hdl:dn.length+r.length=all.length:=by rw [<- hcat,List.length_append]
 refine ⟨fun hlt=>?_,fun hge=>?_⟩
 .have hlt:i<s7.size:=by have:=of_decide_eq_true hlt; omega
  have hsi:=fromB_size (s:=s7) (i:=i) (by omega)
  cases ht with
  | nil=>omega
  | cons t1 t2 t3 t4 htr =>
    rename_i nn r
    have t2:(fstM g ts.length (fromB s7 i)).2=((nn:Nat):Int):=t2
    obtain ⟨k,j,n',hsp,q1,q2,q3,q4⟩:=fst_spec hpar hp hk hC (w:=fromB s7 i) (by omega) (by omega)
    have hnn:n'=nn:=by rw [t2] at q1; omega
    subst hnn
    have app:∀ {kd:Int} {H2:KH} {n1 n2:Nat},kd=(fstM g ts.length (fromB s7 i)).1->Le H12 H2->H2 n1=none->(H2.new n1 (mkEnt [.int .i64 kd,.int .i64 ((i:Nat):Int),.int .i64 ((n':Nat):Int)] 0)) n2=none->
     ∃ (n3:Nat) (l4:List Value),knew (H2.new n1 (mkEnt [.int .i64 kd,.int .i64 ((i:Nat):Int),.int .i64 ((n':Nat):Int)] 0)) TK3 (.slice (some ⟨n1,0,none⟩) 1 1)=some (n3,l4)/\∃ (a5:OA) (n6 n7:Nat) (H8:KH),kappend (H2.new n1 (mkEnt [.int .i64 kd,.int .i64 ((i:Nat):Int),.int .i64 ((n':Nat):Int)] 0)) n2 TK3 a8 dn.length n10 n3 l4=some (.slice a5 n6 n7,H8)/\
      (Le H H8/\∃ ex',n6=(dn++[((fstM g ts.length (fromB s7 i)).1,i,((n':Nat):Int))]).length/\Gr H8 3 a5 (dn++[((fstM g ts.length (fromB s7 i)).1,i,((n':Nat):Int))]).length n7 (tkC (dn++[((fstM g ts.length (fromB s7 i)).1,i,((n':Nat):Int))])) ex'/\∀ b,blk a5=some b->H b=none):=by
     intro kd H2 n1 n2 hkd hl2 h1 h2
     subst hkd
     have l16:=Le.new (e:=mkEnt [Value.int .i64 (fstM g ts.length (fromB s7 i)).1,.int .i64 ((i:Nat):Int),.int .i64 ((n':Nat):Int)] 0) h1
     have hG2:=hG.agree (H':=H2.new n1 (mkEnt [Value.int .i64 (fstM g ts.length (fromB s7 i)).1,.int .i64 ((i:Nat):Int),.int .i64 ((n':Nat):Int)] 0)) fun q e z1 z2=>l16 q e (hl2 q e z2)
     obtain ⟨a',H',ex',f1,f2,_,f4,f5⟩:=hG2.append (ti:=TK3) (new:=[.int .i64 (fstM g ts.length (fromB s7 i)).1,.int .i64 ((i:Nat):Int),.int .i64 ((n':Nat):Int)]) h2 rfl (by simp only [List.length_cons] at hdl; omega) (by decide) (by decide)
     refine ⟨1,_,knew_of (lit_kold (if_pos rfl) rfl),a',_,unkU,H',f1,(fun q e z=>f4 q e (l16 q e (hl2 q e (hle q e z))) fun y=>by rw [hout q y] at z; cases z),ex',by simp,?_,fun b hb=>?_⟩
     .have hl:(dn++[((fstM g ts.length (fromB s7 i)).1,i,((n':Nat):Int))]).length=dn.length+1:=by simp
      rw [hl,tkC_app]
      exact f2
     .rcases f5 b hb with y | y
      .exact hout b y
      .subst y
       exact hle.none (hl2.none (l16.none h2))
    have w1:IntKind.wrap .i64 (((i:Nat):Int)+((n':Nat):Int))=((i+n':Nat):Int):=by rw [wrap64 (by omega) (by omega)]; omega
    refine ⟨⟨by omega,by omega,by omega⟩,c24 ok hpar hp (s:=fromB s7 i) (hP.mono hle) (by omega) fun k2 j2 H2 hl2 hsp2=>⟨_,_,_,rfl,?_⟩⟩
    have hsame:=hsp.same hsp2
    injection hsame with z1 z2
    injection z2 with z2 z3
    have hk2:k=k2:=by omega
    have hj2:j=j2:=by omega
    subst hk2; subst hj2
    rcases q4 with ⟨y1,y2,y3,y4⟩ | ⟨y1,y2,y3⟩
    .subst y3
     rw [decide_eq_true y1]
     refine ⟨fun q=>(by cases q),fun _ n1 h1 n2 h2=>?_⟩
     obtain ⟨n3,l4,u1,a5,n6',n7',H8,u2,u3,ex',u4,u5,u6⟩:=app y2.symm hl2 h1 h2
     exact ⟨n3,l4,u1,a5,n6',n7',H8,u2,s7.size-(i+n'),by omega,rfl,rfl,rfl,u3,i+n',_,r,ex',w1,by omega,rfl,u4,u5,u6,htr,by rw [List.append_assoc]; exact hcat⟩
    .subst y3
     rw [decide_eq_false (by omega)]
     refine ⟨fun _ n1 h1 n2 h2=>?_,fun q=>by cases q⟩
     obtain ⟨n3,l4,u1,a5,n6',n7',H8,u2,u3,ex',u4,u5,u6⟩:=app y2.symm hl2 h1 h2
     exact ⟨n3,l4,u1,a5,n6',n7',H8,u2,s7.size-(i+1),by omega,rfl,rfl,rfl,u3,i+1,_,r,ex',w1,by omega,rfl,u4,u5,u6,htr,by rw [List.append_assoc]; exact hcat⟩
 .have hge:i=s7.size:=by have:=of_decide_eq_false hge; omega
  subst hge
  cases ht with
  | nil =>
    rw [List.append_nil] at hcat
    subst hcat
    exact hq _ _ _ ex _ hall hle hG
  | cons t1=>omega
end
end Va
end Go.Proofs.YtfhjkkbaghanhaaGreat
namespace Go.Ew
open Go.Ev Go.Deep
theorem tk_ld1 {H:KH} {a:OA} {l:List Tok3} (h:kold H 3 a l.length=some (tkC l)) {i:Nat} {x:Tok3} (hi:l[i]? = some x):∃ b o,a=some ⟨b,o,none⟩/\ld H ⟨b,o+i*3+1,none⟩ [.int .i64 ((x.2.1:Nat):Int)]/\ld H ⟨b,o+i*3+2,none⟩ [.int .i64 x.2.2]:=by
 have hl:i<l.length:=by
  rcases Nat.lt_or_ge i l.length with z | z
  .exact z
  .rw [List.getElem?_eq_none z] at hi; cases hi
 obtain ⟨b,o,e,r⟩:=rowAddr h (by omega)
 have g:=tkC_get3 hi
 refine ⟨b,o,e,?_,?_⟩
 .have:=r (i*3+1) 1 (by omega)
  have e1:((tkC l).drop (i*3+1)).take 1=[.int .i64 ((x.2.1:Nat):Int)]:=by
   have:=congrArg (fun z=>(z.drop 1).take 1) g
   simpa [List.drop_take,List.take_take,List.drop_drop] using this
  rw [e1,<- Nat.add_assoc] at this; exact this
 .have:=r (i*3+2) 1 (by omega)
  have e1:((tkC l).drop (i*3+2)).take 1=[.int .i64 x.2.2]:=by
   have:=congrArg (fun z=>(z.drop 2).take 1) g
   simpa [List.drop_take,List.take_take,List.drop_drop] using this
  rw [e1,<- Nat.add_assoc] at this; exact this
end Go.Ew
namespace Go.Proofs.YtfhjkkbaghanhaaGreat
open Go.Ev Go.Ew
namespace Va
section
variable (ok : EnvOk (env Tryz.prog))
include ok
omit ok in
theorem kept_end {s t:ByteArray} {a b:OA} {c d:Nat} {l m:List Tok3} {x:Nat} {H:KH} {Q:PQ} (hs:s.size<=10000) (ht:t.size<=10000) (hl:kold H 3 a l.length=some (tkC l)) (hm:kold H 3 b m.length=some (tkC m))
 (il:∀ y∈l,InT s.size y) (im:∀ y∈m,InT t.size y) (sl:l.length<=10000) (sm:m.length<=10000) (hx:x=frontM s t l m) (hq:Q (.int .i64 ((keptM s t l m:Nat):Int)) H):vc16_L1 s a l.length c t b m.length d ((x:Nat):Int) H Q:=by
 have hxl:x<=min l.length m.length:=by have:=stayM_le s t 0 (l.zip m); rw [List.length_zip] at this; rw [hx]; exact this
 have hk:keptM s t l m=x+endT s t (l.drop x) (m.drop x):=by unfold keptM; rw [hx]
 have hz:((l.drop x).reverse.zip (m.drop x).reverse).length=min (l.length-x) (m.length-x):=by rw [List.length_zip,List.length_reverse,List.length_reverse,List.length_drop,List.length_drop]
 have hmv:IntKind.wrap .i64 (((t.size:Nat):Int)-((s.size:Nat):Int))=((t.size:Nat):Int)-((s.size:Nat):Int):=wrap64 (by omega) (by omega)
 unfold vc16_L1
 refine ⟨fun n s4 a5 n6 n7 s8 a9 n10 n11 x12 x13 H14=>s4=s/\a5=a/\n6=l.length/\s8=t/\a9=b/\n10=m.length/\x12=((x:Nat):Int)/\H14=H/\∃ i:Nat,x13=i/\x+i<=min l.length m.length/\n=min l.length m.length-i/\i+stayM s t (((t.size:Nat):Int)-((s.size:Nat):Int)) (((l.drop x).reverse.zip (m.drop x).reverse).drop i)=endT s t (l.drop x) (m.drop x),
  ⟨_,rfl,rfl,rfl,rfl,rfl,rfl,rfl,rfl,0,rfl,by omega,rfl,by simp [endT]⟩,?_⟩
 rintro n s4 a5 n6 n7 s8 a9 n10 n11 x12 x13 H14 ⟨rfl,rfl,rfl,rfl,rfl,rfl,rfl,rfl,i,rfl,hi,rfl,hst⟩
 have hw:IntKind.wrap .i64 (((x:Nat):Int)+((i:Nat):Int))=((x+i:Nat):Int):=by rw [wrap64 (by omega) (by omega)]; omega
 rw [hw]
 have done:stayM s4 s8 (((s8.size:Nat):Int)-((s4.size:Nat):Int)) (((l.drop x).reverse.zip (m.drop x).reverse).drop i)=0->Q (.int .i64 ((x+i:Nat):Int)) H14:=fun z=>by
  rw [z,Nat.add_zero] at hst
  rw [hk,<- hst] at hq
  exact hq
 refine ⟨fun h1=>⟨fun h2=>?_,fun h2=>?_⟩,fun h1=>?_⟩
 .have h1:x+i<l.length:=by have:=of_decide_eq_true h1; omega
  have h2:x+i<m.length:=by have:=of_decide_eq_true h2; omega
  have wl:IntKind.wrap .i64 (IntKind.wrap .i64 (((l.length:Nat):Int)-1)-((i:Nat):Int))=((l.length-1-i:Nat):Int):=by
   rw [wrap64 (x:=((l.length:Nat):Int)-1) (by omega) (by omega),wrap64 (by omega) (by omega)]; omega
  have wm1:IntKind.wrap .i64 (((m.length:Nat):Int)-1)=((m.length:Nat):Int)-1:=wrap64 (by omega) (by omega)
  have wm:IntKind.wrap .i64 (IntKind.wrap .i64 (((m.length:Nat):Int)-1)-((i:Nat):Int))=((m.length-1-i:Nat):Int):=by
   rw [wm1,wrap64 (by omega) (by omega)]; omega
  have gl:l[l.length-1-i]? = some l[l.length-1-i]:=List.getElem?_eq_getElem (by omega)
  have gm:m[m.length-1-i]? = some m[m.length-1-i]:=List.getElem?_eq_getElem (by omega)
  have hcons:((l.drop x).reverse.zip (m.drop x).reverse).drop i=(l[l.length-1-i],m[m.length-1-i]) :: ((l.drop x).reverse.zip (m.drop x).reverse).drop (i+1):=by
   rw [List.drop_eq_getElem_cons (by omega),List.getElem_zip,List.getElem_reverse,List.getElem_reverse,List.getElem_drop,List.getElem_drop]
   have e1:x+((l.drop x).length-1-i)=l.length-1-i:=by rw [List.length_drop]; omega
   have e2:x+((m.drop x).length-1-i)=m.length-1-i:=by rw [List.length_drop]; omega
   simp only [e1,e2]
  have hil:=il _ (List.getElem_mem (show l.length-1-i<l.length by omega))
  have him:=im _ (List.getElem_mem (show m.length-1-i<m.length by omega))
  obtain ⟨b0,o0,ha,r0⟩:=tk_ld3 hl gl
  obtain ⟨b1,o1,hb,r1⟩:=tk_ld3 hm gm
  generalize l[l.length-1-i]=u at hcons hil r0
  generalize m[m.length-1-i]=v at hcons him r1
  obtain ⟨u1,u2,u3⟩:=u
  obtain ⟨v1,v2,v3⟩:=v
  simp only [InT] at hil him r0 r1
  have e1:IntKind.wrap .i64 (((u2:Nat):Int)+u3)=((u2:Nat):Int)+u3:=wrap64 (by omega) (by omega)
  have e2:IntKind.wrap .i64 (((v2:Nat):Int)+v3)=((v2:Nat):Int)+v3:=wrap64 (by omega) (by omega)
  have e3:IntKind.wrap .i64 (((v2:Nat):Int)-((u2:Nat):Int))=((v2:Nat):Int)-((u2:Nat):Int):=wrap64 (by omega) (by omega)
  rw [hcons] at hst done
  have sm0:sameM s4 s8 (((s8.size:Nat):Int)-((s4.size:Nat):Int)) (u1,u2,u3) (v1,v2,v3)=false->Q (.int .i64 ((x+i:Nat):Int)) H14:=fun z=>done (by unfold stayM; rw [if_neg (by rw [z]; simp)])
  refine ⟨trivial,?_⟩
  rw [wl,wm,hmv,Int.toNat_natCast,Int.toNat_natCast]
  refine ⟨⟨by omega,by omega⟩,b0,o0,ha,_,_,_,r0,⟨by omega,by omega⟩,b1,o1,hb,_,_,_,r1,⟨rfl,rfl,rfl,rfl,rfl,rfl,⟨⟨by omega,by omega⟩,b1,o1,hb,rfl⟩,⟨_,_,_,r1,rfl⟩,trivial⟩,trivial,trivial,fun q1=>?_,fun q1=>⟨fun q2=>?_,fun q2=>⟨fun q3=>?_,fun q3=>?_⟩⟩⟩
  .exact sm0 (by simp [sameM,of_decide_eq_true q1])
  .exact sm0 (by simp [sameM,of_decide_eq_true q2])
  .rw [e3] at q3
   have q3:=of_decide_eq_true q3
   have:¬ (((u2:Nat):Int)+(((s8.size:Nat):Int)-((s4.size:Nat):Int))=((v2:Nat):Int)):=fun z=>q3 (by omega)
   exact sm0 (by simp [sameM,this])
  .rw [e3] at q3
   rw [e1,e2]
   have q1:u1=v1:=by simpa using q1
   have q2:u3=v3:=by simpa using q2
   have q3:((v2:Nat):Int)-((u2:Nat):Int)=((s8.size:Nat):Int)-((s4.size:Nat):Int):=by simpa using q3
   have hsm:sameM s4 s8 (((s8.size:Nat):Int)-((s4.size:Nat):Int)) (u1,u2,u3) (v1,v2,v3)=strEq (strCut s4 ((u2:Nat):Int) (((u2:Nat):Int)+u3)) (strCut s8 ((v2:Nat):Int) (((v2:Nat):Int)+v3)):=by
    have z:((u2:Nat):Int)+(((s8.size:Nat):Int)-((s4.size:Nat):Int))=((v2:Nat):Int):=by omega
    unfold sameM cutT
    simp only [decide_eq_true q1,decide_eq_true q2,decide_eq_true z,Bool.true_and]
   refine ⟨⟨by omega,by omega,by omega⟩,⟨by omega,by omega,by omega⟩,fun q=>?_,fun q=>⟨min l.length m.length-(i+1),by omega,rfl,rfl,rfl,rfl,rfl,rfl,rfl,rfl,i+1,by rw [wrap64 (by omega) (by omega)]; omega,by omega,rfl,?_⟩⟩
   .rw [<- hsm] at q
    exact sm0 (by simpa using q)
   .rw [<- hsm] at q
    have q:sameM s4 s8 (((s8.size:Nat):Int)-((s4.size:Nat):Int)) (u1,u2,u3) (v1,v2,v3)=true:=by simpa using q
    have hz:stayM s4 s8 (((s8.size:Nat):Int)-((s4.size:Nat):Int)) (((u1,u2,u3),(v1,v2,v3)) :: ((l.drop x).reverse.zip (m.drop x).reverse).drop (i+1))=stayM s4 s8 (((s8.size:Nat):Int)-((s4.size:Nat):Int)) (((l.drop x).reverse.zip (m.drop x).reverse).drop (i+1))+1:=by conv=>lhs; unfold stayM; rw [if_pos q]
    rw [hz] at hst
    omega
 .have h2:¬ (x+i<m.length):=by have:=of_decide_eq_false h2; omega
  exact done (by rw [List.drop_eq_nil_of_le (by omega)]; rfl)
 .have h1:¬ (x+i<l.length):=by have:=of_decide_eq_false h1; omega
  exact done (by rw [List.drop_eq_nil_of_le (by omega)]; rfl)
theorem c16 {s t:ByteArray} {a b:OA} {c d:Nat} {l m:List Tok3} {H:KH} {Q:PQ} (hs:s.size<=10000) (ht:t.size<=10000) (hl:kold H 3 a l.length=some (tkC l)) (hm:kold H 3 b m.length=some (tkC m))
 (il:∀ y∈l,InT s.size y) (im:∀ y∈m,InT t.size y) (sl:l.length<=10000) (sm:m.length<=10000) (hq:Q (.int .i64 ((keptM s t l m:Nat):Int)) H):Does (env Tryz.prog) 16 [.string s,.slice a l.length c,.string t,.slice b m.length d] H Q:=by
 refine fn16 ok ?_
 have hz:(l.zip m).length=min l.length m.length:=List.length_zip
 unfold vc16 vc16_L2
 refine ⟨fun n s4 a5 n6 n7 s8 a9 n10 n11 x12 H13=>s4=s/\a5=a/\n6=l.length/\n7=c/\s8=t/\a9=b/\n10=m.length/\n11=d/\H13=H/\∃ i:Nat,x12=i/\i<=min l.length m.length/\n=min l.length m.length-i/\i+stayM s t 0 ((l.zip m).drop i)=frontM s t l m,
  ⟨_,rfl,rfl,rfl,rfl,rfl,rfl,rfl,rfl,rfl,0,rfl,by omega,rfl,by simp [frontM]⟩,?_⟩
 rintro n s4 a5 n6 n7 s8 a9 n10 n11 x12 H13 ⟨rfl,rfl,rfl,rfl,rfl,rfl,rfl,rfl,rfl,i,rfl,hi,rfl,hst⟩
 have done:stayM s4 s8 0 ((l.zip m).drop i)=0->vc16_L1 s4 a5 l.length n7 s8 a9 m.length n11 ((i:Nat):Int) H13 Q:=fun z=>kept_end hs ht hl hm il im sl sm (by rw [z,Nat.add_zero] at hst; exact hst) hq
 refine ⟨trivial,fun h1=>⟨fun h2=>?_,fun h2=>?_⟩,fun h1=>?_⟩
 .have h1:i<l.length:=by have:=of_decide_eq_true h1; omega
  have h2:i<m.length:=by have:=of_decide_eq_true h2; omega
  have gl:l[i]? = some l[i]:=List.getElem?_eq_getElem h1
  have gm:m[i]? = some m[i]:=List.getElem?_eq_getElem h2
  have hcons:(l.zip m).drop i=(l[i],m[i]) :: (l.zip m).drop (i+1):=by
   rw [List.drop_eq_getElem_cons (by omega),List.getElem_zip]
  have hil:=il _ (List.getElem_mem h1)
  have him:=im _ (List.getElem_mem h2)
  obtain ⟨b0,o0,ha,r0⟩:=tk_ld3 hl gl
  obtain ⟨b1,o1,hb,r1⟩:=tk_ld3 hm gm
  obtain ⟨b0',o0',ha',r01,r02⟩:=tk_ld1 hl gl
  obtain ⟨b1',o1',hb',r11,r12⟩:=tk_ld1 hm gm
  generalize l[i]=u at hcons hil r0 r01 r02
  generalize m[i]=v at hcons him r1 r11 r12
  obtain ⟨u1,u2,u3⟩:=u
  obtain ⟨v1,v2,v3⟩:=v
  simp only [InT] at hil him r0 r1 r01 r02 r11 r12
  have e0:Int.toNat ((i:Nat):Int)=i:=by omega
  have e1:IntKind.wrap .i64 (((u2:Nat):Int)+u3)=((u2:Nat):Int)+u3:=wrap64 (by omega) (by omega)
  have e2:IntKind.wrap .i64 (((v2:Nat):Int)+v3)=((v2:Nat):Int)+v3:=wrap64 (by omega) (by omega)
  rw [hcons] at hst done
  have sm0:sameM s4 s8 0 (u1,u2,u3) (v1,v2,v3)=false->vc16_L1 s4 a5 l.length n7 s8 a9 m.length n11 ((i:Nat):Int) H13 Q:=fun z=>done (by unfold stayM; rw [if_neg (by rw [z]; simp)])
  have hd:(decide (u1=v1)&&(decide (((u2:Nat):Int)+0=((v2:Nat):Int))&&(decide (u3=v3)&&true)))=(decide (u1=v1)&&(decide (((u2:Nat):Int)=((v2:Nat):Int))&&(decide (u3=v3)&&true))):=by rw [Int.add_zero]
  rw [e0]
  refine ⟨⟨by omega,by omega⟩,b0,o0,ha,_,_,_,r0,⟨by omega,by omega⟩,b1,o1,hb,_,_,_,r1,fun q1=>?_,fun q1=>?_⟩
  .have hsm:sameM s4 s8 0 (u1,u2,u3) (v1,v2,v3)=strEq (strCut s4 ((u2:Nat):Int) (((u2:Nat):Int)+u3)) (strCut s8 ((v2:Nat):Int) (((v2:Nat):Int)+v3)):=by
    unfold sameM cutT
    simp only
    rw [hd,q1,Bool.true_and]
   refine ⟨⟨by omega,by omega⟩,b0',o0',ha',rfl,_,r01,⟨by omega,by omega⟩,b0',o0',ha',rfl,_,r01,⟨by omega,by omega⟩,b0',o0',ha',rfl,_,r02,?_⟩
   rw [e1]
   refine ⟨⟨by omega,by omega,by omega⟩,⟨by omega,by omega⟩,b1',o1',hb',rfl,_,r11,⟨by omega,by omega⟩,b1',o1',hb',rfl,_,r11,⟨by omega,by omega⟩,b1',o1',hb',rfl,_,r12,?_⟩
   rw [e2]
   refine ⟨⟨by omega,by omega,by omega⟩,fun q=>?_,fun q=>?_⟩
   .rw [<- hsm] at q
    have hz:stayM s4 s8 0 (((u1,u2,u3),(v1,v2,v3)) :: (l.zip m).drop (i+1))=stayM s4 s8 0 ((l.zip m).drop (i+1))+1:=by conv=>lhs; unfold stayM; rw [if_pos q]
    rw [hz] at hst
    exact ⟨min l.length m.length-(i+1),by omega,rfl,rfl,rfl,rfl,rfl,rfl,rfl,rfl,rfl,i+1,by rw [wrap64 (by omega) (by omega)]; omega,by omega,rfl,by omega⟩
   .rw [<- hsm] at q
    exact sm0 q
  .exact sm0 (by unfold sameM; simp only; rw [hd,q1,Bool.false_and])
 .have h2:¬ (i<m.length):=by have:=of_decide_eq_false h2; omega
  exact done (by rw [List.drop_eq_nil_of_le (by omega)]; rfl)
 .have h1:¬ (i<l.length):=by have:=of_decide_eq_false h1; omega
  exact done (by rw [List.drop_eq_nil_of_le (by omega)]; rfl)
omit ok in
theorem c5 {H:KH} {Q:PQ} (hq:Q (.bool true) H):Does (env Tryz.prog) 5 [] H Q:=does_true (by kernel_rfl) (by kernel_rfl) (by kernel_rfl) hq
end
end Va
end Go.Proofs.YtfhjkkbaghanhaaGreat
namespace Go.Ew
open Go.Ev Go.Deep
def SpR (H:KH) (a:OA) (n:Nat):Prop:=∀ i,i<n->∃ b o x y s,a=some ⟨b,o,none⟩/\ld H ⟨b,o+i*3,none⟩ [.int .i64 x,.int .i64 y,.string s]/\ld H ⟨b,o+i*3+2,none⟩ [.string s]/\x<9223372036854775808
theorem SpR.mono {H H':KH} {a:OA} {n:Nat} (h:SpR H a n) (hl:Le H H'):SpR H' a n:=fun i hi=>by
 obtain ⟨b,o,x,y,s,h1,h2,h3,h4⟩:=h i hi
 exact ⟨b,o,x,y,s,h1,hl.ld h2,hl.ld h3,h4⟩
end Go.Ew
namespace Go.Proofs.YtfhjkkbaghanhaaGreat
open Go.Ev Go.Ew
namespace Va
section
variable (ok : EnvOk (env Tryz.prog))
include ok
theorem c13w {ra b:OA} {L rc d:Nat} {g:Nat->Int} {s p:ByteArray} {p0 p1:Int} {l:List Tok3} {H:KH} {Q:PQ} (hI:IC H ra (L*257) g) (h0:p0<9223372036854775808) (hs:s.size<=1000) (hp:p.size<=1000)
 (hl:kold H 3 b l.length=some (tkC l)) (hol:SlOk H 3 b l.length d) (il:∀ y∈l,InT s.size y) (sl:l.length<=100000)
 (hno:¬ (0<=p0/\0<=p1/\p1+p0<=((s.size:Nat):Int))->Q (.tuple #[.string ⟨#[]⟩,.slice none 0 0,.int .i64 0,.bool false]) H)
 (hq:∀ x n:Nat,p0=x->p1=n->x+n<=s.size->∀ m a' c' H',Tks (fun i=>fstM g L (fromB (splT s x n p) i)) (splT s x n p).size 0 m->Le H H'->kold H' 3 a' m.length=some (tkC m)->SlOk H' 3 a' m.length c'->Q (.tuple #[.string (splT s x n p),.slice a' m.length c',.int .i64 ((keptM s (splT s x n p) l m:Nat):Int),.bool true]) H') :
 Does (env Tryz.prog) 13 [.slice ra L rc,.string s,.slice b l.length d,.agg #[.int .i64 p0,.int .i64 p1,.string p]] H Q:=by
 refine fn13 ok (c25 ok h0 (by omega) ⟨_,rfl,fun h=>hno fun z=>?_,fun h=>?_⟩)
 .rw [decide_eq_true z] at h; cases h
 have h:0<=p0/\0<=p1/\p1+p0<=((s.size:Nat):Int):=of_decide_eq_true (by simpa using h)
 obtain ⟨x,rfl⟩:=Int.eq_ofNat_of_zero_le h.1
 obtain ⟨n,rfl⟩:=Int.eq_ofNat_of_zero_le h.2.1
 have hb:splB s ((x:Nat):Int) ((n:Nat):Int) p=true:=by
  unfold splB
  simp only [Bool.and_eq_true,decide_eq_true_eq,Nat.ble_eq]
  omega
 have hsz:=splT_size (p:=p) (show x+n<=s.size by omega)
 refine does_spl (by kernel_rfl) (by kernel_rfl) (by kernel_rfl) hb ⟨_,rfl,?_⟩
 rw [Int.toNat_natCast,Int.toNat_natCast]
 refine c17 ok hI (by omega) (fun i hi=>?_) fun m a' c' ex H5 ht hle hG=>⟨_,_,_,rfl,?_⟩
 .have hsi:=fromB_size (s:=splT s x n p) (i:=i) (by omega)
  obtain ⟨k,q1,q2,q3⟩:=fst_len (g:=g) (L:=L) (w:=fromB (splT s x n p) i) (by omega) (by omega)
  exact ⟨k,q1,q2,by omega⟩
 .have:=ht.len
  exact c27 ok (by omega) (by omega) (hle.kold hl) hG.row (hol.mono hle) (hG.slok (by omega)) il ht.inT sl (by omega) fun H10 hl10=>⟨_,rfl,hq x n rfl rfl (by omega) m a' c' H10 ht (hle.trans hl10) (hl10.kold hG.row) ((hG.slok (by omega)).mono hl10)⟩
theorem c3 {a b e:OA} {n m k c d f:Nat} {H:KH} (h0:U8 H a n) (h1:U8 H b m) (h2:SpR H e k):Does (env Tryz.prog) 3 [.slice a n c,.slice b m d,.slice e k f] H fun v _=>v = .bool true:=by
 refine fn3 ok (c5 ⟨true,rfl,fun h=>(by cases h),fun _=>⟨fun _=>rfl,fun l0=>⟨fun _=>rfl,fun l1=>⟨fun _=>rfl,fun l2=>?_⟩⟩⟩⟩)
 have l0:n<=60:=by have:=of_decide_eq_false l0; omega
 have l1:m<=30:=by have:=of_decide_eq_false l1; omega
 have l2:k<=10:=by have:=of_decide_eq_false l2; omega
 refine c6 ok h0 (by omega) fun p H2 hp=>⟨p,0,rfl,c7 ok hp fun rs ta tc H6 hrl hrp hl6 htk=>⟨_,_,_,rfl,c8 ok (h1.mono hl6) (by omega) fun s H11 hsz _ hl11=>⟨s,rfl,?_⟩⟩⟩
 have htk11:=htk.mono hl11
 refine c18g ok htk11 (by omega) (fun pats a' c' X H14 cs hE hHX hX hG hP _=>⟨_,_,_,_,rfl,?_⟩) fun ⟨t,ht,hn⟩=>by obtain ⟨l,hl⟩:=hrp t ht; rw [hl] at hn; cases hn
 have hlen:=hE.len
 have hPR:PtR H14 pats a':=⟨cs,hG.row,hP.mono hX⟩
 have hl14:=hHX.trans hX
 have htk14:=htk11.mono hl14
 refine c10 ok htk14 (by omega) (fun pats2 ra rc ts g H20 hE2 hl20 hI hks hC=>⟨_,_,_,_,rfl,fun q=>(by cases q),fun _=>?_⟩) (fun pats2 H20 hE2 hl20 hmany=>⟨_,_,_,_,rfl,fun _=>?_,fun q=>by cases q⟩) fun ⟨t,ht,hn⟩=>by obtain ⟨l,hl⟩:=hrp t ht; rw [hl] at hn; cases hn
 .have hpp:=hE2.same hE
  subst hpp
  have hpar:=hE.par
  have hsp20:=h2.mono (hl6.trans (hl11.trans (hl14.trans hl20)))
  refine c12 ok hpar (by omega) hks hC (hPR.mono hl20) (by omega) fun l la lc ex H29 htl hl29 hGl=>⟨_,_,_,rfl,?_⟩
  have hll:=htl.len
  have hI29:=hI.mono hl29
  have hPR29:=hPR.mono (hl20.trans hl29)
  have hsp29:=hsp20.mono hl29
  unfold vc3_L4
  refine ⟨fun n3 a4 n5 n6 s7 a8 n9 n10 a11 n12 n13 a14 n15 n16 x17 H18=>a4=e/\n5=k/\a8=a'/\n9=pats2.length/\a11=ra/\n12=ts.length/\Le H29 H18/\∃ (i:Nat) (l:List Tok3),x17=i/\i<=k/\n3=k-i/\s7.size<=60+20*i/\n15=l.length/\kold H18 3 a14 l.length=some (tkC l)/\SlOk H18 3 a14 l.length n16/\Tks (fun i=>fstM g ts.length (fromB s7 i)) s7.size 0 l,
   ⟨_,rfl,rfl,rfl,rfl,rfl,rfl,Le.refl _,0,l,rfl,by omega,rfl,by omega,rfl,hGl.row,hGl.slok (by omega),htl⟩,?_⟩
  rintro n3 a4 n5 n6 s7 a8 n9 n10 a11 n12 n13 a14 n15 n16 x17 H18 ⟨rfl,rfl,rfl,rfl,rfl,rfl,hle,i,l,rfl,hi,rfl,hss,rfl,hrow,hso,htk⟩
  refine ⟨fun hlt=>?_,fun hge=>rfl⟩
  have hlt:i<n5:=by have:=of_decide_eq_true hlt; omega
  have e0:Int.toNat ((i:Nat):Int)=i:=by omega
  obtain ⟨b0,o0,x,y,p,ea,g1,g2,hx⟩:=(hsp29.mono hle) i hlt
  rw [e0]
  refine ⟨⟨by omega,by omega⟩,b0,o0,ea,rfl,p,g2,fun _=>rfl,fun q=>⟨⟨by omega,by omega⟩,b0,o0,ea,x,y,p,g1,?_⟩⟩
  have hpz:p.size<=20:=by have:=of_decide_eq_false q; omega
  have htl:=htk.len
  have w1:IntKind.wrap .i64 (((i:Nat):Int)+1)=((i+1:Nat):Int):=by rw [wrap64 (by omega) (by omega)]; omega
  refine c13w ok (hI29.mono hle) hx (by omega) (by omega) hrow hso htk.inT (by omega) (fun hno=>?_) fun u v hu hv huv mm a2 c2 H7 htm hl7 hrm hsm=>?_
  .refine ⟨_,_,_,_,_,_,rfl,⟨by omega,by omega⟩,b0,o0,ea,x,y,p,g1,c14 ok hx (by omega) (by omega) (fun _=>⟨_,_,rfl,fun q=>(by cases q),fun _=>⟨fun q=>?_,fun _=>⟨fun _=>⟨fun q=>?_,fun _=>⟨fun q=>?_,fun _=>?_⟩⟩,fun q=>by cases q⟩⟩⟩) fun u v hu hv huv=>absurd ⟨by omega,by omega,by omega⟩ hno⟩
   .rw [strEq_iff.2 rfl] at q; cases q
   .exact absurd (of_decide_eq_true q) (by omega)
   .exact absurd rfl (of_decide_eq_true q)
   .exact ⟨n5-(i+1),by omega,rfl,rfl,rfl,rfl,rfl,rfl,hle,i+1,l,w1,by omega,rfl,by omega,rfl,hrow,hso,htk⟩
  .have hz:=splT_size (p:=p) huv
   refine ⟨_,_,_,_,_,_,rfl,⟨by omega,by omega⟩,b0,o0,ea,x,y,p,hl7.ld g1,c14 ok hx (by omega) (by omega) (fun hno=>absurd ⟨by omega,by omega,by omega⟩ hno) fun u' v' hu' hv' huv'=>?_⟩
   have eu:u'=u:=by omega
   have ev:v'=v:=by omega
   subst eu; subst ev
   refine ⟨_,_,rfl,fun q=>(by cases q),fun _=>⟨fun q=>?_,fun _=>⟨fun q=>(by cases q),fun _=>c12 ok hpar (by omega) hks hC (hPR29.mono (hle.trans hl7)) (by omega) fun l2 la2 lc2 ex2 H8 htl2 hl8 hG2=>⟨_,_,_,rfl,?_⟩⟩⟩⟩
   .rw [strEq_iff.2 rfl] at q; cases q
   .have hsame:=htm.uniq htl2
    subst hsame
    have hml:=htm.len
    refine c15 ok (hl8.kold hrm) hG2.row (by omega) ⟨_,rfl,fun q=>?_,fun _=>?_⟩
    .rw [decide_eq_true rfl] at q; cases q
    .refine c16 ok (by omega) (by omega) ((hl7.trans hl8).kold hrow) hG2.row htk.inT htm.inT (by omega) (by omega) ⟨_,rfl,fun q=>absurd rfl (of_decide_eq_true q),fun _=>⟨n5-(i+1),by omega,rfl,rfl,rfl,rfl,rfl,rfl,hle.trans (hl7.trans hl8),i+1,mm,w1,by omega,rfl,by omega,rfl,hG2.row,hG2.slok (by omega),htm⟩⟩
 .refine c11 ok (hPR.mono hl20) (by omega) (few_len hE.par) ⟨_,rfl,?_⟩
  have hpp:=hE2.same hE
  subst hpp
  rw [decide_eq_false (by omega)]
  rfl
end
end Va
end Go.Proofs.YtfhjkkbaghanhaaGreat
