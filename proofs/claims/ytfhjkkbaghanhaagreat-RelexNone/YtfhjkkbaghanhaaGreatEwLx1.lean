import Derived.Test.YtfhjkkbaghanhaaGreatEwDk9
import Derived.Test.YtfhjkkbaghanhaaGreatEwVc8
set_option linter.unusedVariables false
set_option linter.unusedSimpArgs false
namespace Go.Ew
open Go.Ev Go.Deep
def ParsE (rs:List ByteArray) (pats:List (List It)):Prop:=rs.map parseR=pats.map some
theorem ParsE.len {rs:List ByteArray} {pats:List (List It)} (h:ParsE rs pats):pats.length=rs.length:=by
 have:=congrArg List.length h
 simpa using this.symm
theorem ParsE.par {rs:List ByteArray} {pats:List (List It)} (h:ParsE rs pats):∀ l∈pats,∃ s,parseR s=some l:=fun l hl=>by
 have:some l∈rs.map parseR:=by rw [h]; exact List.mem_map.2 ⟨l,hl,rfl⟩
 obtain ⟨s,_,hs⟩:=List.mem_map.1 this
 exact ⟨s,hs⟩
theorem some_list:∀ {p q:List (List It)},p.map some=q.map some→p=q
 | [],[],_=>rfl
 | [],b :: q,h=>by cases h
 | a :: p,[],h=>by cases h
 | a :: p,b :: q,h=>by
   simp only [List.map_cons,List.cons.injEq,Option.some.injEq] at h
   rw [h.1,some_list h.2]
theorem ParsE.same {rs:List ByteArray} {p q:List (List It)} (h:ParsE rs p) (g:ParsE rs q):p=q:=some_list (by rw [← h,← g])
theorem ParsE.snoc {rs:List ByteArray} {pats:List (List It)} {k:Nat} {l:List It} (hk:k<rs.length) (h:ParsE (rs.take k) pats) (hl:parseR rs[k]=some l):ParsE (rs.take (k+1)) (pats++[l]):=by
 unfold ParsE at *
 rw [List.take_succ_eq_append_getElem hk,List.map_append,h,List.map_append]
 simp [hl]
theorem ParsE.no {rs:List ByteArray} {pats:List (List It)} (h:ParsE rs pats):¬ ∃ s∈rs,parseR s=none:=fun ⟨s,hs,hn⟩=>by
 have:parseR s∈pats.map some:=by rw [← h]; exact List.mem_map.2 ⟨s,hs,rfl⟩
 rw [hn] at this
 simp at this
theorem PtC.snoc {X:KH} {l:List It} {a:OA} {c:Nat} (hi:ItR X l a) (hso:SlOk X 2 a l.length c):∀ {ps:List (List It)} {ds:List Value},PtC X ps ds→PtC X (ps++[l]) (ds++[.slice a l.length c])
 | [],ds,h=>by
   have h:ds=[]:=h
   subst h
   exact ⟨a,c,[],rfl,⟨hi,hso⟩,rfl⟩
 | q :: ps,ds,⟨a9,c22,es,g1,g2,g3⟩=>⟨a9,c22,es++[.slice a l.length c],by rw [g1]; rfl,g2,PtC.snoc hi hso g3⟩
theorem TkC.get3:∀ {r:List ByteArray} {cs:List Value} {k:Nat} {s:ByteArray},TkC r cs→r[k]? = some s→∃ nm b,(cs.drop (k*3)).take 3=[.string nm,.string s,.bool b]
 | [],cs,k,s,h,hk=>by simp at hk
 | x :: r,cs,0,s,⟨nm',b',ds,h1,h2⟩,hk=>by
   have hk:x=s:=by simpa using hk
   subst hk; subst h1; exact ⟨nm',b',rfl⟩
 | x :: r,cs,k+1,s,⟨nm',b',ds,h1,h2⟩,hk=>by
   subst h1
   have hk:r[k]? = some s:=by simpa using hk
   obtain ⟨nm,b,h⟩:=TkC.get3 h2 hk
   refine ⟨nm,b,?_⟩
   have e:(k+1)*3=k*3+3:=by omega
   rw [e]
   simpa using h
end Go.Ew
namespace Go.Proofs.YtfhjkkbaghanhaaGreat
open Go.Ev Go.Ew
namespace Va
section
variable (ok : EnvOk (env Tryz.prog))
include ok
theorem c18g {rs:List ByteArray} {a:OA} {c:Nat} {H:KH} {Q:PQ} (hk:TkR H rs a) (hs:rs.length≤1000)
 (hq:∀ (pats:List (List It)) a' c' X H' cs,ParsE rs pats→Le H X→Le X H'→Gr H' 1 a' pats.length c' cs []→PtC X pats cs→(∀ b,blk a'=some b→X b=none)→Q (.tuple #[.slice a' pats.length c',.bool true]) H')
 (hno:(∃ s∈rs,parseR s=none)→∀ H',Le H H'→Q (.tuple #[.slice none 0 0,.bool false]) H'):Does (env Tryz.prog) 9 [.slice a rs.length c] H Q:=by
 obtain ⟨tc,tk,tt⟩:=hk
 refine fn9 ok ?_
 unfold vc9 vc9_L2
 refine ⟨fun n3 a4 n5 n6 a7 n8 n9 x10 H11=>a4=a∧n5=rs.length∧∃ (k:Nat) (pats:List (List It)) (cs:List Value) (X:KH),x10=k∧k≤rs.length∧n3=rs.length-k∧n8=pats.length∧pats.length=k∧ParsE (rs.take k) pats∧Le H X∧Le X H11∧Gr H11 1 a7 n8 n9 cs []∧PtC X pats cs∧∀ b,blk a7=some b→X b=none,
  ⟨rs.length,rfl,rfl,0,[],[],H,rfl,by omega,rfl,rfl,rfl,rfl,Le.refl _,Le.refl _,.nil,rfl,fun b q=>by cases q⟩,?_⟩
 rintro n3 a4 n5 n6 a7 n8 n9 x10 H11 ⟨rfl,rfl,k,pats,cs,X,rfl,hk,rfl,rfl,hpk,hpp,hHX,hX,hG,hP,hout⟩
 refine ⟨fun hlt=>?_,fun hge=>?_⟩
 ·have hlt:k<rs.length:=by have:=of_decide_eq_true hlt; omega
  have e0:Int.toNat ((k:Nat):Int)=k:=by omega
  have hks:rs[k]? = some rs[k]:=by simp [hlt]
  obtain ⟨b1,o1,e1,r1⟩:=rowAddr ((hHX.trans hX).kold tk) (by omega)
  have g1:=r1 (k*3+1) 1 (by omega)
  have e2:(tc.drop (k*3+1)).take 1=[.string rs[k]]:=dropTake rfl fun j hj=>by
   match j,hj with
   | 0,_=>simpa using tt.get hks
  rw [e2] at g1
  rw [e0]
  refine ⟨⟨by omega,by omega⟩,b1,o1,e1,rfl,rs[k],by simpa [Nat.add_assoc] using g1,Does.only hX (c20 ok (fun hn X' hXX H5 hX5 hrest=>⟨_,_,_,_,rfl,fun _=>hno ⟨rs[k],List.getElem_mem hlt,hn⟩ H5 ((hHX.trans hXX).trans hX5),fun q=>(by cases q)⟩) fun l hl a6 c5 X' hXX hi hso H5 hX5 hrest=>⟨_,_,_,_,rfl,fun q=>(by cases q),fun _ n1 h1 n2 h2=>?_⟩)⟩
  have l1:=Le.new (e:=mkEnt [Value.slice a6 l.length c5] 0) h1
  have hG5:Gr H5 1 a7 pats.length n9 cs []:=hG.agree fun q e z1 z2=>(hrest q e z2 (hout q z1)).1
  obtain ⟨a',H',ex',f1,f2,f3,f4,f5⟩:=(hG5.agree fun q e _ z=>l1 q e z).append (ti:=PT1) (new:=[.slice a6 l.length c5]) h2 rfl (by omega) (by decide) (by decide)
  have hx:=f3 rfl
  subst hx
  have hout':∀ b,blk a7=some b→X' b=none:=fun b q=>by
   obtain ⟨e,z⟩:=hG.at' q
   exact (hrest b e z (hout b q)).2
  refine ⟨1,_,knew_of (lit_kold (if_pos rfl) rfl),a',_,_,H',f1,rs.length-(k+1),by omega,rfl,rfl,k+1,pats++[l],_,X',by rw [wrap64 (by omega) (by omega)]; omega,by omega,rfl,by simp,by simp [hpk],hpp.snoc hlt hl,hHX.trans hXX,fun q e z=>f4 q e (l1 q e (hX5 q e z)) fun u=>(by rw [hout' q u] at z; cases z),f2,PtC.snoc hi hso (hP.mono hXX),fun b q=>?_⟩
  ·rcases f5 b q with z | z
   ·exact hout' b z
   ·rw [z]; exact hX5.none (l1.none h2)
 ·have hge:k=rs.length:=by have:=of_decide_eq_false hge; omega
  subst hge
  rw [List.take_length] at hpp
  exact hq pats a7 n9 X H11 cs hpp hHX hX hG hP hout
theorem c21 {rs:List ByteArray} {a:OA} {c:Nat} {H:KH} {Q:PQ} (hk:TkR H rs a) (hs:rs.length≤1000)
 (hq:∀ (pats:List (List It)) a' c' X H' cs,ParsE rs pats→Le H X→Le X H'→Gr H' 1 a' pats.length c' cs []→PtC X pats cs→(∀ b,blk a'=some b→X b=none)→Q (.tuple #[.slice a' pats.length c',.bool true]) H')
 (hno:(∃ s∈rs,parseR s=none)→∀ H',Le H H'→Q (.tuple #[.slice none 0 0,.bool false]) H'):Does (env Tryz.prog) 21 [.slice a rs.length c] H Q:=by
 obtain ⟨tc,tk,tt⟩:=hk
 refine fn21 ok ?_
 unfold vc21 vc21_L2
 refine ⟨fun n3 a7 n8 n9 a4 n5 n6 x11 x10 H11=>a4=a∧n5=rs.length∧x11=(rs.length:Nat)∧∃ (k:Nat) (pats:List (List It)) (cs:List Value) (X:KH),x10=k∧k≤rs.length∧n3=rs.length-k∧n8=pats.length∧pats.length=k∧ParsE (rs.take k) pats∧Le H X∧Le X H11∧Gr H11 1 a7 n8 n9 cs []∧PtC X pats cs∧∀ b,blk a7=some b→X b=none,
  ⟨rs.length,rfl,rfl,rfl,0,[],[],H,rfl,by omega,rfl,rfl,rfl,rfl,Le.refl _,Le.refl _,.nil,rfl,fun b q=>by cases q⟩,?_⟩
 rintro n3 a7 n8 n9 a4 n5 n6 x11 x10 H11 ⟨rfl,rfl,rfl,k,pats,cs,X,rfl,hk,rfl,rfl,hpk,hpp,hHX,hX,hG,hP,hout⟩
 refine ⟨fun hlt=>?_,fun hge=>?_⟩
 ·have hlt:k<rs.length:=by have:=of_decide_eq_true hlt; omega
  have e0:Int.toNat ((k:Nat):Int)=k:=by omega
  have hks:rs[k]? = some rs[k]:=by simp [hlt]
  obtain ⟨b1,o1,e1,r1⟩:=rowAddr ((hHX.trans hX).kold tk) (by omega)
  have g1:=r1 (k*3) 3 (by omega)
  obtain ⟨nm,sk,e2⟩:=TkC.get3 tt hks
  rw [e2] at g1
  rw [e0]
  refine ⟨⟨by omega,by omega⟩,b1,o1,e1,nm,rs[k],sk,g1,Does.only hX (c51s ok (fun hn X' hXX H5 hX5 hrest=>⟨_,_,_,_,rfl,fun _=>hno ⟨rs[k],List.getElem_mem hlt,hn⟩ H5 ((hHX.trans hXX).trans hX5),fun q=>(by cases q)⟩) fun l hl a6 c5 X' hXX hi hso H5 hX5 hrest=>⟨_,_,_,_,rfl,fun q=>(by cases q),fun _ n1 h1 n2 h2=>?_⟩)⟩
  have l1:=Le.new (e:=mkEnt [Value.slice a6 l.length c5] 0) h1
  have hG5:Gr H5 1 a7 pats.length n9 cs []:=hG.agree fun q e z1 z2=>(hrest q e z2 (hout q z1)).1
  obtain ⟨a',H',ex',f1,f2,f3,f4,f5⟩:=(hG5.agree fun q e _ z=>l1 q e z).append (ti:=PT1) (new:=[.slice a6 l.length c5]) h2 rfl (by omega) (by decide) (by decide)
  have hx:=f3 rfl
  subst hx
  have hout':∀ b,blk a7=some b→X' b=none:=fun b q=>by
   obtain ⟨e,z⟩:=hG.at' q
   exact (hrest b e z (hout b q)).2
  refine ⟨1,_,knew_of (lit_kold (if_pos rfl) rfl),a',_,_,H',f1,rs.length-(k+1),by omega,rfl,rfl,rfl,k+1,pats++[l],_,X',by rw [wrap64 (by omega) (by omega)]; omega,by omega,rfl,by simp,by simp [hpk],hpp.snoc hlt hl,hHX.trans hXX,fun q e z=>f4 q e (l1 q e (hX5 q e z)) fun u=>(by rw [hout' q u] at z; cases z),f2,PtC.snoc hi hso (hP.mono hXX),fun b q=>?_⟩
  ·rcases f5 b q with z | z
   ·exact hout' b z
   ·rw [z]; exact hX5.none (l1.none h2)
 ·have hge:k=rs.length:=by have:=of_decide_eq_false hge; omega
  subst hge
  rw [List.take_length] at hpp
  exact hq pats a7 n9 X H11 cs hpp hHX hX hG hP hout
theorem c10 {rs:List ByteArray} {a:OA} {c:Nat} {H:KH} {Q:PQ} (hk:TkR H rs a) (hs:rs.length≤50)
 (hq:∀ pats ra rc ts g H',ParsE rs pats→Le H H'→IC H' ra (ts.length*257) g→KsOk (nfaM pats) ts→RowsC (nfaM pats) ts g ts.length→Q (.tuple #[.slice ra ts.length rc,.bool true]) H')
 (hmany:∀ pats H',ParsE rs pats→Le H H'→8<clsAll pats→Q (.tuple #[.slice none 0 0,.bool false]) H')
 (hno:(∃ s∈rs,parseR s=none)→∀ H',Le H H'→Q (.tuple #[.slice none 0 0,.bool false]) H'):Does (env Tryz.prog) 10 [.slice a rs.length c] H Q:=by
 refine fn10 ok (c21 ok hk (by omega) (fun pats a' c' X H2 cs hE hHX hX hG hP _=>⟨_,_,_,_,rfl,fun q=>(by cases q),fun _=>?_⟩) fun hn H' hl=>⟨_,_,_,_,rfl,fun _=>hno hn H' hl,fun q=>by cases q⟩)
 have hlen:=hE.len
 have hPR:PtR H2 pats a':=⟨cs,hG.row,hP.mono hX⟩
 refine c11p ok hPR hE.par (by omega) fun a8 c23 H7 hl7 hst=>⟨_,_,_,rfl,?_⟩
 refine c9p ok hE.par (by omega) hst (fun ra rc ts g H12 hl12 hI hks hC h300=>⟨_,_,_,rfl,?_⟩) fun H12 hl12 hmany'=>⟨_,_,_,rfl,?_⟩
 ·rw [decide_eq_true (by have:=hks.pos; omega)]
  exact hq pats ra rc ts g H12 hE (((hHX.trans hX).trans hl7).trans hl12) hI hks hC
 ·exact hmany pats H12 hE (((hHX.trans hX).trans hl7).trans hl12) hmany'
end
end Va
end Go.Proofs.YtfhjkkbaghanhaaGreat
