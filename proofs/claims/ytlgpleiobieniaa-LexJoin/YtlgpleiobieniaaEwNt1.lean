import Derived.Test.YtlgpleiobieniaaEwPt1
set_option linter.unusedVariables false
set_option linter.unusedSimpArgs false
namespace Go.Ew
open Go.Ev Go.Deep
inductive Mo (R:Nat→Nat→Prop):Nat→Nat→Prop where
 | none (i:Nat):Mo R i i
 | more (i k j:Nat) (h:R i k) (r:Mo R k j):Mo R i j
def Mt (s:ByteArray):Ptn→Nat→Nat→Prop
 | .cls L,i,j=>j=i+1∧i<s.size∧∃ r∈L,r.1≤byteAt s i∧byteAt s i≤r.2
 | .join a b,i,j=>∃ k,Mt s a i k∧Mt s b k j
 | .alt a b,i,j=>Mt s a i j∨Mt s b i j
 | .star a,i,j=>Mo (Mt s a) i j
 | .plus a,i,j=>∃ k,Mt s a i k∧Mo (Mt s a) k j
 | .may a,i,j=>i=j∨Mt s a i j
theorem Mo.le {R:Nat→Nat→Prop} (h:∀ i j,R i j→i≤j) {i j:Nat} (m:Mo R i j):i≤j:=by
 induction m with
 | none i=>exact Nat.le_refl _
 | more i k j h1 _ ih=>have:=h i k h1; omega
theorem Mt.le {s:ByteArray}:∀ (t:Ptn) (i j:Nat),Mt s t i j→i≤j
 | .cls L,i,j,h=>by have:=h.1; omega
 | .join a b,i,j,⟨k,h1,h2⟩=>by have:=Mt.le a i k h1; have:=Mt.le b k j h2; omega
 | .alt a b,i,j,h=>by
   rcases h with h | h
   ·exact Mt.le a i j h
   ·exact Mt.le b i j h
 | .star a,i,j,h=>Mo.le (Mt.le a) h
 | .plus a,i,j,⟨k,h1,h2⟩=>by have:=Mt.le a i k h1; have:=Mo.le (Mt.le a) h2; omega
 | .may a,i,j,h=>by
   rcases h with h | h
   ·omega
   ·exact Mt.le a i j h
theorem Mo.sz {R:Nat→Nat→Prop} {n:Nat} (h:∀ i j,R i j→i≤n→j≤n) {i j:Nat} (m:Mo R i j) (hi:i≤n):j≤n:=by
 induction m with
 | none i=>exact hi
 | more i k j h1 _ ih=>exact ih (h i k h1 hi)
theorem Mt.sz {s:ByteArray}:∀ (t:Ptn) (i j:Nat),Mt s t i j→i≤s.size→j≤s.size
 | .cls L,i,j,h,hi=>by have:=h.1; have:=h.2.1; omega
 | .join a b,i,j,⟨k,h1,h2⟩,hi=>Mt.sz b k j h2 (Mt.sz a i k h1 hi)
 | .alt a b,i,j,h,hi=>by
   rcases h with h | h
   ·exact Mt.sz a i j h hi
   ·exact Mt.sz b i j h hi
 | .star a,i,j,h,hi=>Mo.sz (Mt.sz a) h hi
 | .plus a,i,j,⟨k,h1,h2⟩,hi=>Mo.sz (Mt.sz a) h2 (Mt.sz a i k h1 hi)
 | .may a,i,j,h,hi=>by
   rcases h with h | h
   ·omega
   ·exact Mt.sz a i j h hi
def GoSt (S:List St) (s:ByteArray) (x i y j:Nat):Prop :=
 (j=i∧((y:Nat):Int)∈(stAt S x).free)∨(j=i+1∧i<s.size∧(stAt S x).lo≤byteAt s i∧byteAt s i≤(stAt S x).hi∧(stAt S x).next=(y:Nat))
inductive PWay (S:List St) (s:ByteArray):Nat→Nat→Nat→Nat→Nat→Prop where
 | here (x i:Nat):PWay S s 0 x i x i
 | on (n x i y j z k:Nat) (h:GoSt S s x i y j) (r:PWay S s n y j z k):PWay S s (n+1) x i z k
theorem PWay.app {S:List St} {s:ByteArray} {n m x i y j z k:Nat} (h:PWay S s n x i y j) (r:PWay S s m y j z k):PWay S s (n+m) x i z k:=by
 induction h with
 | here x i=>rw [Nat.zero_add]; exact r
 | on n x i y' j' y j h1 _ ih =>
   rw [show n+1+m=(n+m)+1 by omega]
   exact .on _ _ _ _ _ _ _ h1 (ih r)
theorem PWay.one {S:List St} {s:ByteArray} {x i y j:Nat} (h:GoSt S s x i y j):PWay S s 1 x i y j:=.on _ _ _ _ _ _ _ h (.here _ _)
theorem PWay.snoc {S:List St} {s:ByteArray} {n x i y j z k:Nat} (h:PWay S s n x i y j) (r:GoSt S s y j z k):PWay S s (n+1) x i z k:=h.app (.one r)
def Led (S:List St) (s:ByteArray) (x i y j:Nat):Prop:=∃ n,PWay S s n x i y j
theorem Led.app {S:List St} {s:ByteArray} {x i y j z k:Nat} (h:Led S s x i y j) (r:Led S s y j z k):Led S s x i z k:=by
 obtain ⟨n,h⟩:=h
 obtain ⟨m,r⟩:=r
 exact ⟨_,h.app r⟩
theorem Led.one {S:List St} {s:ByteArray} {x i y j:Nat} (h:GoSt S s x i y j):Led S s x i y j:=⟨_,.one h⟩
theorem Led.refl {S:List St} {s:ByteArray} (x i:Nat):Led S s x i x i:=⟨_,.here _ _⟩
def Laid (S l:List St) (n:Nat):Prop:=∀ k s,l[k]? = some s→S[n+k]? = some s
theorem Laid.left {S l m:List St} {n:Nat} (h:Laid S (l++m) n):Laid S l n:=fun k s hk=>h k s (by
 rw [List.getElem?_append_left]
 ·exact hk
 ·rcases Nat.lt_or_ge k l.length with q | q
  ·exact q
  ·rw [List.getElem?_eq_none q] at hk; cases hk)
theorem Laid.right {S l m:List St} {n:Nat} (h:Laid S (l++m) n):Laid S m (n+l.length):=fun k s hk=>by
 rw [Nat.add_assoc]
 exact h (l.length+k) s (by rw [List.getElem?_append_right (by omega),Nat.add_sub_cancel_left]; exact hk)
theorem Laid.at_ {S l:List St} {n:Nat} (h:Laid S l n) {k:Nat} {s:St} (hk:l[k]? = some s):stAt S (n+k)=s:=by
 unfold stAt; rw [h k s hk]; rfl
theorem Laid.cons {S l:List St} {s:St} {n:Nat} (h:Laid S (s :: l) n):stAt S n=s∧Laid S l (n+1):=by
 refine ⟨h.at_ (k:=0) rfl,fun k t hk=>?_⟩
 rw [show n+1+k=n+(k+1) by omega]
 exact h (k+1) t (by simpa using hk)
structure Blk (S:List St) (s:ByteArray) (e:Nat) (n len nx:Nat) (R:Nat→Nat→Prop):Prop where
 thru:∀ i j,R i j→Led S s e i nx j
 out:∀ m i y j,PWay S s m e i y j→(y<n∨n+len≤y)→∃ k m',m'≤m∧R i k∧PWay S s m' nx k y j
 in_:n≤e∧e<n+len
theorem fork_go {S:List St} {s:ByteArray} {x:Nat} {f:List Int} (h:stAt S x=forkS f) {i y j:Nat}:GoSt S s x i y j↔j=i∧((y:Nat):Int)∈f:=by
 unfold GoSt
 rw [h]
 constructor
 ·rintro (q | ⟨_,_,_,_,q⟩)
  ·exact q
  ·have q:(-1:Int)=(y:Nat):=q
   omega
 ·intro q; exact .inl q
theorem PWay.first {S:List St} {s:ByteArray} {m x i y j:Nat} (h:PWay S s m x i y j) (hne:x≠y):∃ m' z k,m=m'+1∧GoSt S s x i z k∧PWay S s m' z k y j:=by
 cases h with
 | here=>exact absurd rfl hne
 | on n _ _ z k _ _ h1 h2=>exact ⟨n,z,k,rfl,h1,h2⟩
theorem Blk.mono {S:List St} {s:ByteArray} {e n len n' len' nx:Nat} {R:Nat→Nat→Prop} (h:Blk S s e n len nx R) (h1:n'≤n) (h2:n+len≤n'+len'):Blk S s e n' len' nx R :=
 ⟨h.thru,fun m i y j hw hy=>h.out m i y j hw (by omega),by have:=h.in_; omega⟩
theorem loop_out {S:List St} {s:ByteArray} {ea n len nx:Nat} {R:Nat→Nat→Prop} (hb:Blk S s ea (n+1) len n R) (hf:stAt S n=forkS [(ea:Nat),(nx:Nat)]) :
 ∀ m i y j,PWay S s m n i y j→(y<n∨n+(len+1)≤y)→∃ k m',m'≤m∧Mo R i k∧PWay S s m' nx k y j:=by
 intro m
 induction m using Nat.strongRecOn with
 | _ m ih =>
   intro i y j hw hy
   obtain ⟨m1,z,k,hm,hg,hw1⟩:=hw.first (by omega)
   rw [fork_go hf] at hg
   obtain ⟨rfl,hz⟩:=hg
   have hz:z=ea∨z=nx:=by
    simp only [List.mem_cons,List.not_mem_nil,or_false] at hz
    omega
   rcases hz with q | q
   ·subst q
    obtain ⟨k,m2,q1,q2,q3⟩:=hb.out m1 _ y j hw1 (by omega)
    obtain ⟨k',m3,r1,r2,r3⟩:=ih m2 (by omega) k y j q3 hy
    exact ⟨k',m3,by omega,.more _ k _ q2 r2,r3⟩
   ·subst q
    exact ⟨_,m1,by omega,.none _,hw1⟩
theorem loop_thru {S:List St} {s:ByteArray} {ea n len nx:Nat} {R:Nat→Nat→Prop} (hb:Blk S s ea (n+1) len n R) (hf:stAt S n=forkS [(ea:Nat),(nx:Nat)]) {i j:Nat} (h:Mo R i j):Led S s n i nx j:=by
 induction h with
 | none i=>exact .one ((fork_go hf).2 ⟨rfl,by simp⟩)
 | more i k j h1 _ ih=>exact ((Led.one ((fork_go hf).2 ⟨rfl,by simp⟩)).app (hb.thru i k h1)).app ih
theorem cls_go {S:List St} {s:ByteArray} {x nx:Nat} {r:Rg} (h:stAt S x=clsS5 nx r) {i y j:Nat}:GoSt S s x i y j↔j=i+1∧i<s.size∧r.1≤byteAt s i∧byteAt s i≤r.2∧y=nx:=by
 unfold GoSt
 rw [h]
 constructor
 ·rintro (q | ⟨q1,q2,q3,q4,q5⟩)
  ·exact absurd q.2 (by simp [clsS5])
  ·have q5:((nx:Nat):Int)=(y:Nat):=q5
   exact ⟨q1,q2,q3,q4,by omega⟩
 ·rintro ⟨q1,q2,q3,q4,q5⟩
  subst q5
  exact .inr ⟨q1,q2,q3,q4,rfl⟩
theorem map_laid {S:List St} {L:List Rg} {nx n k:Nat} {r:Rg} (h:Laid S (L.map (clsS5 nx)) n) (hk:L[k]? = some r):stAt S (n+k)=clsS5 nx r:=h.at_ (by simp [hk])
theorem bld_blk (S:List St) (s:ByteArray):∀ (t:Ptn) (nx n:Nat),t.okT→Laid S (bld t nx n).1 n→(nx<n∨n+(bld t nx n).1.length≤nx)→Blk S s (bld t nx n).2 n (bld t nx n).1.length nx (Mt s t)
 | .cls L,nx,n,hne,hl,hnx=>by
   have hne:=hne.1
   by_cases h1:L.length=1
   ·have hb:bld (.cls L) nx n=(L.map (clsS5 nx),n):=by simp only [bld]; rw [if_pos h1]
    rw [hb] at hl hnx ⊢
    obtain ⟨r,rfl⟩:∃ r,L=[r]:=by
     match L,h1 with
     | [r],_=>exact ⟨r,rfl⟩
    have hs:stAt S n=clsS5 nx r:=map_laid (k:=0) hl rfl
    refine ⟨fun i j h=>.one ((cls_go hs).2 ?_),fun m i y j hw hy=>?_,by simp⟩
    ·obtain ⟨q1,q2,r',q3,q4⟩:=h
     have:r'=r:=by simpa using q3
     subst this
     exact ⟨q1,q2,q4.1,q4.2,rfl⟩
    ·simp only [List.length_map,List.length_cons,List.length_nil] at hy
     obtain ⟨m1,z,k,hm,hg,hw1⟩:=hw.first (by omega)
     obtain ⟨q1,q2,q3,q4,q5⟩:=(cls_go hs).1 hg
     subst q5
     exact ⟨k,m1,by omega,⟨q1,q2,r,by simp,q3,q4⟩,hw1⟩
   ·have hb:bld (.cls L) nx n=(L.map (clsS5 nx)++[forkS (waysM n L.length)],n+L.length):=by simp only [bld]; rw [if_neg h1]; rfl
    rw [hb] at hl hnx ⊢
    have hlm:=hl.left
    have hfk:stAt S (n+L.length)=forkS (waysM n L.length):=by
     have:=hl.right
     rw [List.length_map] at this
     exact this.cons.1
    refine ⟨fun i j h=>?_,fun m i y j hw hy=>?_,by simp⟩
    ·obtain ⟨q1,q2,r,q3,q4⟩:=h
     obtain ⟨k,hk⟩:=List.getElem?_of_mem q3
     have hkl:k<L.length:=by
      rcases Nat.lt_or_ge k L.length with q | q
      ·exact q
      ·rw [List.getElem?_eq_none q] at hk; cases hk
     have a1:GoSt S s (n+L.length) i (n+k) i:=(fork_go hfk).2 ⟨rfl,by
      unfold waysM
      rw [List.mem_map]
      exact ⟨k,by simp [hkl],rfl⟩⟩
     have a2:GoSt S s (n+k) i nx j:=(cls_go (map_laid hlm hk)).2 ⟨q1,q2,q4.1,q4.2,rfl⟩
     exact (Led.one a1).app (.one a2)
    ·simp only [List.length_append,List.length_map,List.length_cons,List.length_nil] at hy
     obtain ⟨m1,z,k,hm,hg,hw1⟩:=hw.first (by omega)
     obtain ⟨rfl,hz⟩:=(fork_go hfk).1 hg
     unfold waysM at hz
     rw [List.mem_map] at hz
     obtain ⟨q,hq1,hq2⟩:=hz
     have hq1:q<L.length:=by simpa using hq1
     have hzq:z=n+q:=by omega
     subst hzq
     have hst:=map_laid hlm (show L[q]? = some L[q] by simp [hq1])
     obtain ⟨m2,z2,k2,hm2,hg2,hw2⟩:=hw1.first (by omega)
     obtain ⟨q1,q2,q3,q4,q5⟩:=(cls_go hst).1 hg2
     subst q5
     exact ⟨k2,m2,by omega,⟨q1,q2,L[q],List.getElem_mem hq1,q3,q4⟩,hw2⟩
 | .join a b,nx,n,hok,hl,hnx=>by
   simp only [bld] at hl hnx ⊢
   have hb:=bld_blk S s b nx n hok.2 hl.left (by rw [List.length_append] at hnx; omega)
   have hin:=hb.in_
   have ha:=bld_blk S s a (bld b nx n).2 (n+(bld b nx n).1.length) hok.1 hl.right (by omega)
   have hia:=ha.in_
   rw [List.length_append] at hnx ⊢
   refine ⟨fun i j ⟨k,h1,h2⟩=>(ha.thru i k h1).app (hb.thru k j h2),fun m i y j hw hy=>?_,by omega⟩
   obtain ⟨k,m1,q1,q2,q3⟩:=ha.out m i y j hw (by omega)
   obtain ⟨k2,m2,r1,r2,r3⟩:=hb.out m1 k y j q3 (by omega)
   exact ⟨k2,m2,by omega,⟨k,q2,r2⟩,r3⟩
 | .alt a b,nx,n,hok,hl,hnx=>by
   simp only [bld] at hl hnx ⊢
   simp only [List.length_append,List.length_cons,List.length_nil] at hnx ⊢
   have ha:=bld_blk S s a nx n hok.1 hl.left.left (by omega)
   have hb:=bld_blk S s b nx (n+(bld a nx n).1.length) hok.2 hl.left.right (by omega)
   have hia:=ha.in_
   have hib:=hb.in_
   have hf:=(hl.right).cons.1
   rw [List.length_append,← Nat.add_assoc] at hf
   refine ⟨fun i j h=>?_,fun m i y j hw hy=>?_,by omega⟩
   ·rcases h with h | h
    ·exact (Led.one ((fork_go hf).2 ⟨rfl,by simp⟩)).app (ha.thru i j h)
    ·exact (Led.one ((fork_go hf).2 ⟨rfl,by simp⟩)).app (hb.thru i j h)
   ·obtain ⟨m1,z,k,hm,hg,hw1⟩:=hw.first (by omega)
    obtain ⟨rfl,hz⟩:=(fork_go hf).1 hg
    simp only [List.mem_cons,List.not_mem_nil,or_false] at hz
    rcases hz with hz | hz
    ·have:z=(bld a nx n).2:=by omega
     subst this
     obtain ⟨k,m2,q1,q2,q3⟩:=ha.out m1 _ y j hw1 (by omega)
     exact ⟨k,m2,by omega,.inl q2,q3⟩
    ·have:z=(bld b nx (n+(bld a nx n).1.length)).2:=by omega
     subst this
     obtain ⟨k,m2,q1,q2,q3⟩:=hb.out m1 _ y j hw1 (by omega)
     exact ⟨k,m2,by omega,.inr q2,q3⟩
 | .star a,nx,n,hok,hl,hnx=>by
   simp only [bld] at hl hnx ⊢
   simp only [List.length_cons] at hnx ⊢
   obtain ⟨hf,hl'⟩:=hl.cons
   have ha:=bld_blk S s a n (n+1) hok hl' (by omega)
   exact ⟨fun i j h=>loop_thru ha hf h,fun m i y j hw hy=>loop_out ha hf m i y j hw (by omega),by omega⟩
 | .plus a,nx,n,hok,hl,hnx=>by
   simp only [bld] at hl hnx ⊢
   simp only [List.length_cons] at hnx ⊢
   obtain ⟨hf,hl'⟩:=hl.cons
   have ha:=bld_blk S s a n (n+1) hok hl' (by omega)
   have hia:=ha.in_
   refine ⟨fun i j ⟨k,h1,h2⟩=>(ha.thru i k h1).app (loop_thru ha hf h2),fun m i y j hw hy=>?_,by omega⟩
   obtain ⟨k,m1,q1,q2,q3⟩:=ha.out m i y j hw (by omega)
   obtain ⟨k2,m2,r1,r2,r3⟩:=loop_out ha hf m1 k y j q3 (by omega)
   exact ⟨k2,m2,by omega,⟨k,q2,r2⟩,r3⟩
 | .may a,nx,n,hok,hl,hnx=>by
   simp only [bld] at hl hnx ⊢
   simp only [List.length_append,List.length_cons,List.length_nil] at hnx ⊢
   have ha:=bld_blk S s a nx n hok hl.left (by omega)
   have hia:=ha.in_
   have hf:=(hl.right).cons.1
   refine ⟨fun i j h=>?_,fun m i y j hw hy=>?_,by omega⟩
   ·rcases h with h | h
    ·subst h
     exact .one ((fork_go hf).2 ⟨rfl,by simp⟩)
    ·exact (Led.one ((fork_go hf).2 ⟨rfl,by simp⟩)).app (ha.thru i j h)
   ·obtain ⟨m1,z,k,hm,hg,hw1⟩:=hw.first (by omega)
    obtain ⟨rfl,hz⟩:=(fork_go hf).1 hg
    simp only [List.mem_cons,List.not_mem_nil,or_false] at hz
    rcases hz with hz | hz
    ·have:z=(bld a nx n).2:=by omega
     subst this
     obtain ⟨k,m2,q1,q2,q3⟩:=ha.out m1 _ y j hw1 (by omega)
     exact ⟨k,m2,by omega,.inr q2,q3⟩
    ·have:z=nx:=by omega
     subst this
     exact ⟨_,m1,by omega,.inl rfl,hw1⟩
end Go.Ew
set_option linter.unusedVariables false
set_option linter.unusedSimpArgs false
namespace Go.Ew
open Go.Ev Go.Deep
theorem addS_mem {N:Nat} {m:List Nat} {x:Int} {y:Nat}:y∈addS N m x↔y∈m∨(x=(y:Nat)∧y<N):=by
 unfold addS
 split
 ·constructor
  ·exact .inl
  ·rintro (h | ⟨h,_⟩)
   ·exact h
   ·omega
 split
 ·constructor
  ·exact .inl
  ·rintro (h | ⟨h,_⟩)
   ·exact h
   ·omega
 split
 ·rename_i h1 h2 h3
  constructor
  ·exact .inl
  ·rintro (h | ⟨h,_⟩)
   ·exact h
   ·have:x.toNat=y:=by omega
    rw [← this]; exact h3
 ·rename_i h1 h2 h3
  rw [List.mem_append,List.mem_singleton]
  constructor
  ·rintro (h | h)
   ·exact .inl h
   ·exact .inr ⟨by omega,by omega⟩
  ·rintro (h | ⟨h,_⟩)
   ·exact .inl h
   ·exact .inr (by omega)
structure Fit (N:Nat) (m:List Nat):Prop where
 nod:m.Nodup
 lt:∀ x∈m,x<N
theorem addS_fit {N:Nat} {m:List Nat} {x:Int} (h:Fit N m):Fit N (addS N m x):=by
 refine ⟨?_,fun y hy=>?_⟩
 ·unfold addS
  split
  ·exact h.nod
  split
  ·exact h.nod
  split
  ·exact h.nod
  ·rename_i h3
   rw [List.nodup_append]
   exact ⟨h.nod,by simp,fun a z1 b z2 z3=>by
    have z2:b=x.toNat:=by simpa using z2
    exact h3 (by rw [← z2,← z3]; exact z1)⟩
 ·rcases addS_mem.1 hy with q | q
  ·exact h.lt y q
  ·exact q.2
theorem addF_mem {N:Nat}:∀ (f:List Int) (m:List Nat) (y:Nat),y∈f.foldl (addS N) m↔y∈m∨(((y:Nat):Int)∈f∧y<N)
 | [],m,y=>by simp
 | x :: f,m,y=>by
   rw [List.foldl_cons,addF_mem f,addS_mem,List.mem_cons]
   constructor
   ·rintro ((h | h) | h)
    ·exact .inl h
    ·exact .inr ⟨.inl h.1.symm,h.2⟩
    ·exact .inr ⟨.inr h.1,h.2⟩
   ·rintro (h | ⟨h | h,h2⟩)
    ·exact .inl (.inl h)
    ·exact .inl (.inr ⟨h.symm,h2⟩)
    ·exact .inr ⟨h,h2⟩
theorem addF_fit {N:Nat}:∀ (f:List Int) (m:List Nat),Fit N m→Fit N (f.foldl (addS N) m)
 | [],m,h=>h
 | x :: f,m,h=>addF_fit f _ (addS_fit h)
theorem spM_spec {S:List St}:∀ (f i:Nat) (m:List Nat),Fit S.length m→i≤m.length→S.length+1-i≤f→(∀ k x y,k<i→m[k]? = some x→((y:Nat):Int)∈(stAt S x).free→y<S.length→y∈m)→
 Fit S.length (spM S f i m)∧(∀ x∈m,x∈spM S f i m)∧(∀ x y,x∈spM S f i m→((y:Nat):Int)∈(stAt S x).free→y<S.length→y∈spM S f i m)∧
 ∀ P:Nat→Prop,(∀ x∈m,P x)→(∀ x y,P x→((y:Nat):Int)∈(stAt S x).free→y<S.length→P y)→∀ z∈spM S f i m,P z:=by
 intro f
 induction f with
 | zero =>
   intro i m hf hi hfu
   have:=nodup_le _ m hf.nod hf.lt
   omega
 | succ f ih =>
   intro i m hf hi hfu hcl
   rw [spM]
   cases hm:m[i]? with
   | none =>
     have hge:m.length≤i:=by
      rcases Nat.lt_or_ge i m.length with q | q
      ·simp [q] at hm
      ·exact q
     refine ⟨hf,fun x hx=>hx,fun x y hx hy hyl=>?_,fun P h1 _ z hz=>h1 z hz⟩
     obtain ⟨k,hk⟩:=List.getElem?_of_mem hx
     have hkl:k<m.length:=by
      rcases Nat.lt_or_ge k m.length with q | q
      ·exact q
      ·rw [List.getElem?_eq_none q] at hk; cases hk
     exact hcl k x y (by omega) hk hy hyl
   | some x =>
     have hil:i<m.length:=by
      rcases Nat.lt_or_ge i m.length with q | q
      ·exact q
      ·rw [List.getElem?_eq_none q] at hm; cases hm
     obtain ⟨r,hr⟩:=addF_grow (N:=S.length) (stAt S x).free m
     obtain ⟨g1,g2,g3,g4⟩:=ih (i+1) ((stAt S x).free.foldl (addS S.length) m) (addF_fit _ _ hf) (by rw [hr,List.length_append]; omega) (by omega) (fun k z y hk hz hy hyl=>by
      rw [addF_mem]
      by_cases hki:k=i
      ·subst hki
       rw [hr,List.getElem?_append_left hil,hm] at hz
       cases hz
       exact .inr ⟨hy,hyl⟩
      ·rw [hr,List.getElem?_append_left (by omega)] at hz
       exact .inl (hcl k z y (by omega) hz hy hyl))
     refine ⟨g1,fun z hz=>g2 z ((addF_mem _ _ _).2 (.inl hz)),g3,fun P h1 h2 z hz=>g4 P (fun w hw=>?_) h2 z hz⟩
     rcases (addF_mem _ _ _).1 hw with q | q
     ·exact h1 w q
     ·exact h2 x w (h1 x (List.mem_of_getElem? hm)) q.1 q.2
theorem clM_spec {S:List St} {m:List Nat} (h:Fit S.length m):Fit S.length (clM S m)∧(∀ x∈m,x∈clM S m)∧(∀ x y,x∈clM S m→((y:Nat):Int)∈(stAt S x).free→y<S.length→y∈clM S m)∧
 ∀ P:Nat→Prop,(∀ x∈m,P x)→(∀ x y,P x→((y:Nat):Int)∈(stAt S x).free→y<S.length→P y)→∀ z∈clM S m,P z :=
 spM_spec (S.length+1) 0 m h (by omega) (by omega) (fun k x y hk=>by omega)
theorem moveF_mem {S:List St} {c:Int}:∀ (m t:List Nat) (y:Nat),y∈m.foldl (moveM S c) t↔y∈t∨(∃ x∈m,(stAt S x).lo≤c∧c≤(stAt S x).hi∧(stAt S x).next=(y:Nat))∧y<S.length∨y∈t
 | [],t,y=>by simp
 | x :: m,t,y=>by
   rw [List.foldl_cons,moveF_mem m]
   have hm:y∈moveM S c t x↔y∈t∨(((stAt S x).lo≤c∧c≤(stAt S x).hi∧(stAt S x).next=(y:Nat))∧y<S.length):=by
    unfold moveM
    split
    ·rename_i h
     rw [addS_mem]
     constructor
     ·rintro (q | ⟨q1,q2⟩)
      ·exact .inl q
      ·exact .inr ⟨⟨h.1,h.2,q1⟩,q2⟩
     ·rintro (q | ⟨⟨_,_,q1⟩,q2⟩)
      ·exact .inl q
      ·exact .inr ⟨q1,q2⟩
    ·rename_i h
     constructor
     ·exact .inl
     ·rintro (q | ⟨⟨q1,q2,_⟩,_⟩)
      ·exact q
      ·exact absurd ⟨q1,q2⟩ h
   rw [hm]
   constructor
   ·rintro ((q | q) | ⟨⟨w,hw,q⟩,q2⟩ | (q | q))
    ·exact .inl q
    ·exact .inr (.inl ⟨⟨x,by simp,q.1⟩,q.2⟩)
    ·exact .inr (.inl ⟨⟨w,by simp [hw],q⟩,q2⟩)
    ·exact .inl q
    ·exact .inr (.inl ⟨⟨x,by simp,q.1⟩,q.2⟩)
   ·rintro (q | ⟨⟨w,hw,q⟩,q2⟩ | q)
    ·exact .inl (.inl q)
    ·rcases List.mem_cons.1 hw with z | z
     ·subst z; exact .inl (.inr ⟨q,q2⟩)
     ·exact .inr (.inl ⟨⟨w,z,q⟩,q2⟩)
    ·exact .inl (.inl q)
theorem moveF_fit {S:List St} {c:Int}:∀ (m t:List Nat),Fit S.length t→Fit S.length (m.foldl (moveM S c) t)
 | [],t,h=>h
 | x :: m,t,h=>moveF_fit m _ (by
   unfold moveM
   split
   ·exact addS_fit h
   ·exact h)
theorem fit_nil (N:Nat):Fit N []:=⟨List.nodup_nil,fun x hx=>by cases hx⟩
def Sq (S:List St) (s:ByteArray):Nat→List Nat
 | 0=>begM S
 | i+1=>stepM S (byteAt s i) (Sq S s i)
theorem Sq_fit (S:List St) (s:ByteArray):∀ i,Fit S.length (Sq S s i)
 | 0=>(clM_spec (addS_fit (fit_nil _))).1
 | i+1=>(clM_spec (moveF_fit _ _ (fit_nil _))).1
theorem Sq_closed (S:List St) (s:ByteArray) (i x y:Nat) (h:x∈Sq S s i) (hy:((y:Nat):Int)∈(stAt S x).free) (hl:y<S.length):y∈Sq S s i:=by
 cases i with
 | zero=>exact (clM_spec (addS_fit (fit_nil _))).2.2.1 x y h hy hl
 | succ i=>exact (clM_spec (moveF_fit _ _ (fit_nil _))).2.2.1 x y h hy hl
theorem Sq_next (S:List St) (s:ByteArray) (i x y:Nat) (h:x∈Sq S s i) (h1:(stAt S x).lo≤byteAt s i) (h2:byteAt s i≤(stAt S x).hi) (h3:(stAt S x).next=(y:Nat)) (hl:y<S.length):y∈Sq S s (i+1) :=
 (clM_spec (moveF_fit _ _ (fit_nil _))).2.1 y ((moveF_mem _ _ _).2 (.inr (.inl ⟨⟨x,h,h1,h2,h3⟩,hl⟩)))
theorem Sq_led (S:List St) (s:ByteArray):∀ i,i≤s.size→∀ y∈Sq S s i,Led S s 0 0 y i
 | 0,_,y,hy=>by
   refine (clM_spec (addS_fit (fit_nil _))).2.2.2 (fun z=>Led S s 0 0 z 0) (fun x hx=>?_) (fun x z hx hz _=>hx.app (.one (.inl ⟨rfl,hz⟩))) y hy
   rcases addS_mem.1 hx with q | q
   ·cases q
   ·have:x=0:=by omega
    subst this; exact .refl _ _
 | i+1,hi,y,hy=>by
   refine (clM_spec (moveF_fit _ _ (fit_nil _))).2.2.2 (fun z=>Led S s 0 0 z (i+1)) (fun x hx=>?_) (fun x z hx hz _=>hx.app (.one (.inl ⟨rfl,hz⟩))) y hy
   rcases (moveF_mem _ _ _).1 hx with q | ⟨⟨w,hw,q1,q2,q3⟩,_⟩ | q
   ·cases q
   ·exact (Sq_led S s i (by omega) w hw).app (.one (.inr ⟨rfl,by omega,q1,q2,q3⟩))
   ·cases q
theorem st_out {S:List St} {x:Nat} (h:S.length≤x):stAt S x=st0:=by
 unfold stAt; rw [List.getElem?_eq_none h]; rfl
theorem Sq_all (S:List St) (s:ByteArray) {n x i y j:Nat} (h:PWay S s n x i y j):x∈Sq S s i→y<S.length→y∈Sq S s j:=by
 induction h with
 | here x i=>exact fun h _=>h
 | on n x i z k y j h1 h2 ih =>
   intro hx hy
   have hz:z<S.length∨S.length≤z:=Nat.lt_or_ge _ _
   rcases hz with hz | hz
   ·refine ih ?_ hy
    rcases h1 with ⟨rfl,q⟩ | ⟨rfl,_,q1,q2,q3⟩
    ·exact Sq_closed S s _ x z hx q hz
    ·exact Sq_next S s i x z hx q1 q2 q3 hz
   ·exfalso
    cases h2 with
    | here=>omega
    | on n _ _ w l _ _ g1 g2 =>
      unfold GoSt at g1
      rw [st_out hz] at g1
      rcases g1 with ⟨_,q⟩ | ⟨_,_,_,_,q⟩
      ·cases q
      ·have q:(-1:Int)=(w:Nat):=q
       omega
theorem Sq_iff (S:List St) (s:ByteArray) (h0:0<S.length) {y j:Nat} (hj:j≤s.size):y∈Sq S s j↔y<S.length∧Led S s 0 0 y j:=by
 constructor
 ·intro h
  exact ⟨(Sq_fit S s j).lt y h,Sq_led S s j hj y h⟩
 ·rintro ⟨h1,n,h2⟩
  exact Sq_all S s h2 ((clM_spec (addS_fit (fit_nil _))).2.1 0 (addS_mem.2 (.inr ⟨rfl,h0⟩))) h1
theorem least_spec (S:List St):∀ (m:List Nat) (l:Int),(m.foldl (leastM S) l=0↔l=0∧∀ x∈m,(stAt S x).e=0)∧(m.foldl (leastM S) l≠0→(m.foldl (leastM S) l=l∨∃ x∈m,(stAt S x).e=m.foldl (leastM S) l)∧(l≠0→m.foldl (leastM S) l≤l)∧∀ x∈m,(stAt S x).e≠0→m.foldl (leastM S) l≤(stAt S x).e)
 | [],l=>⟨by simp,fun h=>⟨.inl rfl,fun _=>Int.le_refl _,fun x hx=>by cases hx⟩⟩
 | x :: m,l=>by
   obtain ⟨h1,h2⟩:=least_spec S m (leastM S l x)
   rw [List.foldl_cons]
   have hk:(leastM S l x=0↔l=0∧(stAt S x).e=0)∧(leastM S l x=l∨leastM S l x=(stAt S x).e)∧(l≠0→leastM S l x≤l)∧((stAt S x).e≠0→leastM S l x≤(stAt S x).e):=by
    unfold leastM
    split
    ·split
     ·rename_i q1 q2
      exact ⟨⟨fun q=>absurd q q1,fun q=>absurd q.2 q1⟩,.inr rfl,fun q=>absurd q2 q,fun _=>Int.le_refl _⟩
     split
     ·rename_i q1 q2 q3
      exact ⟨⟨fun q=>absurd q q1,fun q=>absurd q.2 q1⟩,.inr rfl,fun q=>by omega,fun _=>Int.le_refl _⟩
     ·rename_i q1 q2 q3
      exact ⟨⟨fun q=>absurd q q2,fun q=>absurd q.1 q2⟩,.inl rfl,fun q=>Int.le_refl _,fun _=>by omega⟩
    ·rename_i q1
     have q1:(stAt S x).e=0:=by simpa using q1
     exact ⟨⟨fun q=>⟨q,q1⟩,fun q=>q.1⟩,.inl rfl,fun q=>Int.le_refl _,fun q=>absurd q1 q⟩
   obtain ⟨k1,k2,k3,k4⟩:=hk
   refine ⟨?_,fun hne=>?_⟩
   ·rw [h1,k1]
    constructor
    ·rintro ⟨⟨q1,q2⟩,q3⟩
     exact ⟨q1,fun y hy=>by
      rcases List.mem_cons.1 hy with z | z
      ·rw [z]; exact q2
      ·exact q3 y z⟩
    ·rintro ⟨q1,q2⟩
     exact ⟨⟨q1,q2 x (by simp)⟩,fun y hy=>q2 y (by simp [hy])⟩
   ·obtain ⟨g1,g2,g3⟩:=h2 hne
    refine ⟨?_,fun hl=>?_,fun y hy hye=>?_⟩
    ·rcases g1 with q | ⟨y,hy,q⟩
     ·rcases k2 with z | z
      ·exact .inl (by rw [q,z])
      ·exact .inr ⟨x,by simp,by rw [q,z]⟩
     ·exact .inr ⟨y,by simp [hy],q⟩
    ·have:=k3 hl
     by_cases hz:leastM S l x=0
     ·exact absurd (k1.1 hz).1 hl
     ·have:=g2 hz; omega
    ·rcases List.mem_cons.1 hy with z | z
     ·subst z
      have:=k4 hye
      by_cases hz:leastM S l y=0
      ·exact absurd (k1.1 hz).2 hye
      ·have:=g2 hz; omega
     ·exact g3 y z hye
theorem endM_spec (S:List St) (m:List Nat):(endM S m=0↔∀ x∈m,(stAt S x).e=0)∧(endM S m≠0→(∃ x∈m,(stAt S x).e=endM S m)∧∀ x∈m,(stAt S x).e≠0→endM S m≤(stAt S x).e):=by
 obtain ⟨h1,h2⟩:=least_spec S m 0
 refine ⟨by unfold endM; rw [h1]; simp,fun hne=>?_⟩
 obtain ⟨g1,_,g3⟩:=h2 hne
 refine ⟨?_,g3⟩
 rcases g1 with q | q
 ·exact absurd q hne
 ·exact q
theorem ofM_spec (S:List St):∀ (ts:List (List It)) (k:Nat) (f:List Int) (tl:List St),Laid S (ofM ts k f tl).2 1→
 (∃ T,(ofM ts k f tl).2=tl++T)∧∃ F,(ofM ts k f tl).1=f++F∧F.length=ts.length∧∀ (j:Nat) l,ts[j]? = some l→∃ E,1≤E∧stAt S E=endS (k+j)∧Laid S (bld (treeD l) E (E+1)).1 (E+1)∧F[j]? = some (((bld (treeD l) E (E+1)).2:Nat):Int)
 | [],k,f,tl,h=>⟨⟨[],by simp [ofM]⟩,[],by simp [ofM],rfl,fun j l hl=>by simp at hl⟩
 | l :: ts,k,f,tl,h=>by
   rw [ofM] at h ⊢
   obtain ⟨⟨T,hT⟩,F,h1,h2,h3⟩:=ofM_spec S ts (k+1) _ _ h
   have hlaid:=h
   rw [hT,List.append_assoc] at hlaid
   have hr:=hlaid.right
   obtain ⟨he,hb⟩:=Laid.cons (l:=_) (by simpa using hr)
   refine ⟨⟨_,by rw [hT,List.append_assoc]⟩,((bld (treeD l) (tl.length+1) (tl.length+2)).2:Int) :: F,by rw [h1]; simp,by simp [h2],fun j l' hl'=>?_⟩
   cases j with
   | zero =>
     have hl':l=l':=by simpa using hl'
     subst hl'
     refine ⟨1+tl.length,by omega,he,?_,?_⟩
     ·have e1:1+tl.length=tl.length+1:=by omega
      rw [e1] at hb ⊢
      exact Laid.left (m:=T) (by simpa using hb)
     ·have e1:1+tl.length=tl.length+1:=by omega
      rw [e1]; rfl
   | succ j =>
     obtain ⟨E,e1,e2,e3,e4⟩:=h3 j l' (by simpa using hl')
     exact ⟨E,e1,by rw [show k+(j+1)=k+1+j by omega]; exact e2,e3,by simpa using e4⟩
theorem bld_e:∀ (t:Ptn) (nx n:Nat) (k:Nat) (s:St),(bld t nx n).1[k]? = some s→s.e=0
 | .cls L,nx,n,k,s,h=>by
   have hm:=List.mem_of_getElem? h
   simp only [bld] at hm
   split at hm
   ·obtain ⟨r,_,rfl⟩:=List.mem_map.1 hm; rfl
   ·rcases List.mem_append.1 hm with hm | hm
    ·obtain ⟨r,_,rfl⟩:=List.mem_map.1 hm; rfl
    ·have:=List.mem_singleton.1 hm; rw [this]; rfl
 | .join a b,nx,n,k,s,h=>by
   have hm:=List.mem_of_getElem? h
   simp only [bld] at hm
   rcases List.mem_append.1 hm with hm | hm
   ·obtain ⟨i,hi⟩:=List.getElem?_of_mem hm; exact bld_e b _ _ i s hi
   ·obtain ⟨i,hi⟩:=List.getElem?_of_mem hm; exact bld_e a _ _ i s hi
 | .alt a b,nx,n,k,s,h=>by
   have hm:=List.mem_of_getElem? h
   simp only [bld] at hm
   rcases List.mem_append.1 hm with hm | hm
   ·rcases List.mem_append.1 hm with hm | hm
    ·obtain ⟨i,hi⟩:=List.getElem?_of_mem hm; exact bld_e a _ _ i s hi
    ·obtain ⟨i,hi⟩:=List.getElem?_of_mem hm; exact bld_e b _ _ i s hi
   ·have:=List.mem_singleton.1 hm; rw [this]; rfl
 | .star a,nx,n,k,s,h=>by
   have hm:=List.mem_of_getElem? h
   simp only [bld] at hm
   rcases List.mem_cons.1 hm with hm | hm
   ·rw [hm]; rfl
   ·obtain ⟨i,hi⟩:=List.getElem?_of_mem hm; exact bld_e a _ _ i s hi
 | .plus a,nx,n,k,s,h=>by
   have hm:=List.mem_of_getElem? h
   simp only [bld] at hm
   rcases List.mem_cons.1 hm with hm | hm
   ·rw [hm]; rfl
   ·obtain ⟨i,hi⟩:=List.getElem?_of_mem hm; exact bld_e a _ _ i s hi
 | .may a,nx,n,k,s,h=>by
   have hm:=List.mem_of_getElem? h
   simp only [bld] at hm
   rcases List.mem_append.1 hm with hm | hm
   ·obtain ⟨i,hi⟩:=List.getElem?_of_mem hm; exact bld_e a _ _ i s hi
   ·have:=List.mem_singleton.1 hm; rw [this]; rfl
theorem led_end {pats:List (List It)} (hg:∀ l∈pats,(treeD l).okT) {s:ByteArray} {j:Nat} {v:Int} (hv:v≠0) :
 (∃ y,Led (nfaM pats) s 0 0 y j∧(stAt (nfaM pats) y).e=v)↔∃ (k:Nat) (l:List It),pats[k]? = some l∧v=((k+1:Nat):Int)∧Mt s (treeD l) 0 j:=by
 have hl1:Laid (nfaM pats) (ofM pats 0 [] []).2 1:=by
  have:Laid (nfaM pats) (forkS (ofM pats 0 [] []).1 :: (ofM pats 0 [] []).2) 0:=fun k s hk=>by rw [Nat.zero_add]; exact hk
  exact this.cons.2
 have hst:stAt (nfaM pats) 0=forkS (ofM pats 0 [] []).1:=rfl
 obtain ⟨_,F,h1,h2,h3⟩:=ofM_spec (nfaM pats) pats 0 [] [] hl1
 rw [h1,List.nil_append] at hst
 have endgo:∀ {E k i y j},stAt (nfaM pats) E=endS k→¬ GoSt (nfaM pats) s E i y j:=fun {E k i y j} he hg=>by
  unfold GoSt at hg
  rw [he] at hg
  rcases hg with ⟨_,q⟩ | ⟨_,_,_,_,q⟩
  ·cases q
  ·have q:(-1:Int)=(y:Nat):=q
   omega
 constructor
 ·rintro ⟨y,⟨n,hw⟩,hy⟩
  have hy0:0≠y:=fun q=>by
   rw [← q,hst] at hy
   exact hv hy.symm
  obtain ⟨m1,z,k,hm,hgo,hw1⟩:=hw.first hy0
  obtain ⟨rfl,hz⟩:=(fork_go hst).1 hgo
  obtain ⟨q,hq⟩:=List.getElem?_of_mem hz
  have hql:q<pats.length:=by
   rcases Nat.lt_or_ge q pats.length with u | u
   ·exact u
   ·rw [List.getElem?_eq_none (by omega)] at hq; cases hq
  have hpq:pats[q]? = some pats[q]:=by simp [hql]
  obtain ⟨E,e1,e2,e3,e4⟩:=h3 q _ hpq
  rw [hq] at e4
  have hzE:z=(bld (treeD pats[q]) E (E+1)).2:=by injection e4 with e4; omega
  subst hzE
  have hb:=bld_blk (nfaM pats) s (treeD pats[q]) E (E+1) (hg _ (List.getElem_mem hql)) e3 (by omega)
  have hyo:y<E+1∨E+1+(bld (treeD pats[q]) E (E+1)).1.length≤y:=by
   apply Classical.byContradiction
   intro hno
   have hin:E+1≤y∧y<E+1+(bld (treeD pats[q]) E (E+1)).1.length:=by omega
   have hk:(bld (treeD pats[q]) E (E+1)).1[y-(E+1)]? = some ((bld (treeD pats[q]) E (E+1)).1[y-(E+1)]'(by omega)):=List.getElem?_eq_getElem (by omega)
   have hat:=e3.at_ hk
   rw [show E+1+(y-(E+1))=y by omega] at hat
   rw [hat,bld_e _ _ _ _ _ hk] at hy
   exact hv hy.symm
  obtain ⟨k,m2,q1,q2,q3⟩:=hb.out m1 _ y j hw1 hyo
  have hEy:E=y∧k=j:=by
   cases q3 with
   | here=>exact ⟨rfl,rfl⟩
   | on n _ _ w l _ _ g1 g2=>exact absurd g1 (endgo e2)
  obtain ⟨rfl,rfl⟩:=hEy
  rw [e2] at hy
  refine ⟨q,_,hpq,?_,q2⟩
  rw [← hy]
  show ((0+q+1:Nat):Int)=_
  rw [Nat.zero_add]
 ·rintro ⟨k,l,hk,hvk,hm⟩
  obtain ⟨E,e1,e2,e3,e4⟩:=h3 k l hk
  have hmem:l∈pats:=List.mem_of_getElem? hk
  have hb:=bld_blk (nfaM pats) s (treeD l) E (E+1) (hg l hmem) e3 (by omega)
  refine ⟨E,(Led.one ((fork_go hst).2 ⟨rfl,List.mem_of_getElem? e4⟩)).app (hb.thru 0 j hm),?_⟩
  rw [e2,hvk]
  show ((0+k+1:Nat):Int)=_
  rw [Nat.zero_add]
def Has (pats:List (List It)) (s:ByteArray) (k j:Nat):Prop:=∃ l,pats[k]? = some l∧Mt s (treeD l) 0 j
inductive LgSpec (M:Nat→Nat→Prop) (n:Nat):Int × Int × Bool→Prop where
 | no (h:∀ k j,1≤j→j≤n→¬ M k j):LgSpec M n (0,0,false)
 | yes (k j:Nat) (h1:1≤j) (h2:j≤n) (h3:M k j) (h4:∀ k' j',j<j'→j'≤n→¬ M k' j') (h5:∀ k',k'<k→¬ M k' j):LgSpec M n (((k:Nat):Int),((j:Nat):Int),true)
theorem LgSpec.same {M:Nat→Nat→Prop} {n:Nat} {r r':Int × Int × Bool} (h:LgSpec M n r) (h':LgSpec M n r'):r=r':=by
 cases h with
 | no h =>
   cases h' with
   | no h'=>rfl
   | yes k j h1 h2 h3=>exact absurd h3 (h k j h1 h2)
 | yes k j h1 h2 h3 h4 h5 =>
   cases h' with
   | no h'=>exact absurd h3 (h' k j h1 h2)
   | yes k' j' g1 g2 g3 g4 g5 =>
     have hj:j=j':=by
      rcases Nat.lt_trichotomy j j' with q | q | q
      ·exact absurd g3 (h4 k' j' q g2)
      ·exact q
      ·exact absurd h3 (g4 k j q h2)
     subst hj
     have hk:k=k':=by
      rcases Nat.lt_trichotomy k k' with q | q | q
      ·exact absurd h3 (g5 k q)
      ·exact q
      ·exact absurd g3 (h5 k' q)
     subst hk
     rfl
theorem lgN_spec {pats:List (List It)} (hg:∀ l∈pats,(treeD l).okT) (hp:pats.length≤1000) {s:ByteArray} (hs:s.size≤1000000):∀ (f i:Nat) (r:Int × Int × Bool),i+f=s.size→LgSpec (Has pats s) i r→LgSpec (Has pats s) s.size (lgN (nfaM pats) s f i (Sq (nfaM pats) s i) r):=by
 have h0:0<(nfaM pats).length:=by unfold nfaM; simp
 have hends:∀ j,j≤s.size→(∀ v,v≠0→((∃ y∈Sq (nfaM pats) s j,(stAt (nfaM pats) y).e=v)↔∃ k:Nat,v=((k+1:Nat):Int)∧Has pats s k j)):=fun j hj v hv=>by
  have:=led_end hg (s:=s) (j:=j) hv
  constructor
  ·rintro ⟨y,h1,h2⟩
   obtain ⟨k,l,q1,q2,q3⟩:=this.1 ⟨y,((Sq_iff _ _ h0 hj).1 h1).2,h2⟩
   exact ⟨k,q2,l,q1,q3⟩
  ·rintro ⟨k,q1,l,q2,q3⟩
   obtain ⟨y,h1,h2⟩:=this.2 ⟨k,l,q2,q1,q3⟩
   refine ⟨y,(Sq_iff _ _ h0 hj).2 ⟨?_,h1⟩,h2⟩
   rcases Nat.lt_or_ge y (nfaM pats).length with z | z
   ·exact z
   ·rw [st_out z] at h2
    exact absurd h2.symm hv
 intro f
 induction f with
 | zero =>
   intro i r hi h
   have:i=s.size:=by omega
   rw [← this]; exact h
 | succ f ih =>
   intro i r hi h
   rw [lgN]
   have hSq:stepM (nfaM pats) (byteAt s i) (Sq (nfaM pats) s i)=Sq (nfaM pats) s (i+1):=rfl
   rw [hSq]
   have hno:∀ j,i<j→j≤s.size→Sq (nfaM pats) s (i+1)=[]→Sq (nfaM pats) s j=[]:=fun j h1 h2 h3=>by
    obtain ⟨d,rfl⟩:∃ d,j=i+1+d:=⟨j-(i+1),by omega⟩
    clear h1 h2
    induction d with
    | zero=>exact h3
    | succ d ihd =>
      show stepM (nfaM pats) _ (Sq (nfaM pats) s (i+1+d))=[]
      rw [ihd]
      unfold stepM
      show clM (nfaM pats) []=[]
      unfold clM
      rw [spM]; rfl
   have extend:∀ {r},LgSpec (Has pats s) i r→(∀ k,¬ Has pats s k (i+1))→LgSpec (Has pats s) (i+1) r:=fun {r} h hn=>by
    cases h with
    | no h =>
      exact .no fun k j h1 h2=>by
       rcases Nat.lt_or_ge i j with q | q
       ·have:j=i+1:=by omega
        rw [this]; exact hn k
       ·exact h k j h1 q
    | yes k j h1 h2 h3 h4 h5 =>
      exact .yes k j h1 (by omega) h3 (fun k' j' q1 q2=>by
       rcases Nat.lt_or_ge i j' with q | q
       ·have:j'=i+1:=by omega
        rw [this]; exact hn k'
       ·exact h4 k' j' q1 q) h5
   split
   ·rename_i hemp
    have hall:∀ j,i<j→j≤s.size→∀ k,¬ Has pats s k j:=fun j h1 h2 k hk=>by
     obtain ⟨y,hy,_⟩:=(hends j h2 ((k+1:Nat):Int) (by omega)).2 ⟨k,rfl,hk⟩
     rw [hno j h1 h2 hemp] at hy
     cases hy
    cases h with
    | no h =>
      exact .no fun k j h1 h2=>by
       rcases Nat.lt_or_ge i j with q | q
       ·exact hall j q h2 k
       ·exact h k j h1 q
    | yes k j h1 h2 h3 h4 h5 =>
      exact .yes k j h1 (by omega) h3 (fun k' j' q1 q2=>by
       rcases Nat.lt_or_ge i j' with q | q
       ·exact hall j' q q2 k'
       ·exact h4 k' j' q1 q) h5
   ·refine ih (i+1) _ (by omega) ?_
    obtain ⟨e1,e2⟩:=endM_spec (nfaM pats) (Sq (nfaM pats) s (i+1))
    have hiff:=hends (i+1) (by omega)
    split
    ·rename_i hne
     obtain ⟨⟨x,hx,hxe⟩,hle⟩:=e2 hne
     obtain ⟨k,hk,hhas⟩:=(hiff _ hne).1 ⟨x,hx,hxe⟩
     have hkl:k<1000:=by
      obtain ⟨l,q,_⟩:=hhas
      rcases Nat.lt_or_ge k pats.length with u | u
      ·omega
      ·rw [List.getElem?_eq_none u] at q; cases q
     have w1:IntKind.wrap .i64 (endM (nfaM pats) (Sq (nfaM pats) s (i+1))-1)=((k:Nat):Int):=by rw [hk,wrap64 (by omega) (by omega)]; omega
     have w2:IntKind.wrap .i64 (((i:Nat):Int)+1)=((i+1:Nat):Int):=by rw [wrap64 (by omega) (by omega)]; omega
     rw [w1,w2]
     refine .yes k (i+1) (by omega) (Nat.le_refl _) hhas (fun k' j' q1 q2=>by omega) fun k' hk' hh=>?_
     obtain ⟨y,hy,hye⟩:=(hiff ((k'+1:Nat):Int) (by omega)).2 ⟨k',rfl,hh⟩
     have:=hle y hy (by rw [hye]; omega)
     rw [hye,hk] at this
     omega
    ·rename_i hz
     have hz:endM (nfaM pats) (Sq (nfaM pats) s (i+1))=0:=by simpa using hz
     refine extend h fun k hk=>?_
     obtain ⟨y,hy,hye⟩:=(hiff ((k+1:Nat):Int) (by omega)).2 ⟨k,rfl,hk⟩
     have:=e1.1 hz y hy
     omega
theorem nfaL_spec {pats:List (List It)} (hg:∀ l∈pats,(treeD l).okT) (hp:pats.length≤1000) {s:ByteArray} (hs:s.size≤1000000):LgSpec (Has pats s) s.size (nfaL (nfaM pats) s) :=
 lgN_spec hg hp hs s.size 0 _ (by omega) (.no fun k j h1 h2=>by omega)
end Go.Ew
set_option linter.unusedVariables false
set_option linter.unusedSimpArgs false
namespace Go.Ew
open Go.Ev Go.Deep
def SameS (a b:List Nat):Prop:=∀ x,x∈a↔x∈b
theorem SameS.nil {a b:List Nat} (h:SameS a b):a=[]↔b=[]:=by
 constructor
 ·intro q
  subst q
  cases b with
  | nil=>rfl
  | cons x r=>exact absurd ((h x).2 (by simp)) (by simp)
 ·intro q
  subst q
  cases a with
  | nil=>rfl
  | cons x r=>exact absurd ((h x).1 (by simp)) (by simp)
theorem SameS.symm {a b:List Nat} (h:SameS a b):SameS b a:=fun x=>(h x).symm
theorem SameS.trans {a b c:List Nat} (h:SameS a b) (g:SameS b c):SameS a c:=fun x=>(h x).trans (g x)
theorem move_same {S:List St} {c:Int} {a b:List Nat} (h:SameS a b):SameS (a.foldl (moveM S c) []) (b.foldl (moveM S c) []):=fun y=>by
 rw [moveF_mem,moveF_mem]
 constructor
 ·rintro (q | ⟨⟨x,z1,z2⟩,z3⟩ | q)
  ·cases q
  ·exact .inr (.inl ⟨⟨x,(h x).1 z1,z2⟩,z3⟩)
  ·cases q
 ·rintro (q | ⟨⟨x,z1,z2⟩,z3⟩ | q)
  ·cases q
  ·exact .inr (.inl ⟨⟨x,(h x).2 z1,z2⟩,z3⟩)
  ·cases q
theorem clM_same {S:List St} {a b:List Nat} (ha:Fit S.length a) (hb:Fit S.length b) (h:SameS a b):SameS (clM S a) (clM S b):=by
 obtain ⟨_,a1,a2,a3⟩:=clM_spec ha
 obtain ⟨_,b1,b2,b3⟩:=clM_spec hb
 intro z
 constructor
 ·exact a3 (fun z=>z∈clM S b) (fun x hx=>b1 x ((h x).1 hx)) (fun x y hx=>b2 x y hx) z
 ·exact b3 (fun z=>z∈clM S a) (fun x hx=>a1 x ((h x).2 hx)) (fun x y hx=>a2 x y hx) z
theorem stepM_same {S:List St} {c:Int} {a b:List Nat} (h:SameS a b):SameS (stepM S c a) (stepM S c b) :=
 clM_same (moveF_fit a [] (fit_nil _)) (moveF_fit b [] (fit_nil _)) (move_same h)
theorem endM_same {S:List St} {a b:List Nat} (h:SameS a b):endM S a=endM S b:=by
 obtain ⟨a1,a2⟩:=endM_spec S a
 obtain ⟨b1,b2⟩:=endM_spec S b
 by_cases z:endM S a=0
 ·rw [z,b1.2 fun x hx=>a1.1 z x ((h x).2 hx)]
 ·have z':endM S b≠0:=fun q=>z (a1.2 fun x hx=>b1.1 q x ((h x).1 hx))
  obtain ⟨⟨x,x1,x2⟩,x3⟩:=a2 z
  obtain ⟨⟨y,y1,y2⟩,y3⟩:=b2 z'
  have q1:=x3 y ((h y).2 y1) (by rw [y2]; exact z')
  have q2:=y3 x ((h x).1 x1) (by rw [x2]; exact z)
  rw [y2] at q1; rw [x2] at q2
  omega
theorem clM_nil {S:List St}:clM S []=[]:=by
 unfold clM
 simp [spM]
theorem step_nil {S:List St} {c:Int} {m:List Nat}:stepM S c m=[]↔m.foldl (moveM S c) []=[]:=by
 constructor
 ·intro h
  cases hq:m.foldl (moveM S c) [] with
  | nil=>rfl
  | cons x r =>
    exfalso
    have:=(clM_spec (moveF_fit (c:=c) m [] (fit_nil S.length))).2.1 x (by rw [hq]; simp)
    have h:clM S (m.foldl (moveM S c) [])=[]:=h
    rw [h] at this
    cases this
 ·intro h
  unfold stepM
  rw [h,clM_nil]
def dLg (g:Nat→Int) (L:Nat) (s:ByteArray):Nat→Nat→Nat→Int × Int × Bool→Int × Int × Bool
 | 0,_,_,st=>st
 | f+1,i,p,st =>
   if g (p*257+(byteAt s i).toNat)<0 then st else if (L:Int)≤g (p*257+(byteAt s i).toNat) then st else
    dLg g L s f (i+1) (g (p*257+(byteAt s i).toNat)).toNat (if g ((g (p*257+(byteAt s i).toNat)).toNat*257+256)≠0 then (IntKind.wrap .i64 (g ((g (p*257+(byteAt s i).toNat)).toNat*257+256)-1),IntKind.wrap .i64 ((i:Int)+1),true) else st)
def dLgR (g:Nat→Int) (L:Nat) (s:ByteArray):Int × Int × Bool:=if L=0 then (0,0,false) else dLg g L s s.size 0 0 (0,0,false)
structure RowsOk (S:List St) (keys:List (List Nat)) (g:Nat→Int):Prop where
 pos:0<keys.length
 beg:∀ K,keys[0]? = some K→SameS K (begM S)
 fin:∀ k K,keys[k]? = some K→g (k*257+256)=endM S K
 non:∀ k K (c:Nat),keys[k]? = some K→c<256→stepM S (c:Int) K=[]→g (k*257+c)<0
 nxt:∀ k K (c:Nat),keys[k]? = some K→c<256→stepM S (c:Int) K≠[]→∃ k' K',g (k*257+c)=((k':Nat):Int)∧keys[k']? = some K'∧SameS K' (stepM S (c:Int) K)
theorem dLg_nfa {S:List St} {keys:List (List Nat)} {g:Nat→Int} (h:RowsOk S keys g) (s:ByteArray):∀ (f i p:Nat) (K m:List Nat) (r:Int × Int × Bool),keys[p]? = some K→SameS K m→dLg g keys.length s f i p r=lgN S s f i m r
 | 0,i,p,K,m,r,hk,hs=>rfl
 | f+1,i,p,K,m,r,hk,hs=>by
   have hb:=byteAt_in s i
   have hc:(((byteAt s i).toNat:Nat):Int)=byteAt s i:=by omega
   have hlt:(byteAt s i).toNat<256:=by omega
   have hst:SameS (stepM S (byteAt s i) K) (stepM S (byteAt s i) m):=stepM_same hs
   rw [dLg,lgN]
   by_cases hz:stepM S (byteAt s i) K=[]
   ·have:=h.non p K _ hk hlt (by rw [hc]; exact hz)
    rw [if_pos this,if_pos (hst.nil.1 hz)]
   ·obtain ⟨k',K',q1,q2,q3⟩:=h.nxt p K _ hk hlt (by rw [hc]; exact hz)
    rw [hc] at q3
    have hkl:k'<keys.length:=by
     rcases Nat.lt_or_ge k' keys.length with u | u
     ·exact u
     ·rw [List.getElem?_eq_none u] at q2; cases q2
    have hn:stepM S (byteAt s i) m≠[]:=fun z=>hz (hst.nil.2 z)
    have e1:(((k':Nat):Int)).toNat=k':=by omega
    rw [q1,if_neg (by omega),if_neg (by omega),if_neg hn,e1,h.fin k' K' q2,endM_same (q3.trans hst)]
    exact dLg_nfa h s f (i+1) k' K' _ _ q2 (q3.trans hst)
theorem dLgR_nfa {S:List St} {keys:List (List Nat)} {g:Nat→Int} (h:RowsOk S keys g) (s:ByteArray):dLgR g keys.length s=nfaL S s:=by
 have hp:=h.pos
 unfold dLgR nfaL
 rw [if_neg (by omega)]
 have h0:keys[0]? = some keys[0]:=by simp [hp]
 exact dLg_nfa h s _ _ _ _ _ _ h0 (h.beg _ h0)
end Go.Ew
set_option linter.unusedVariables false
set_option linter.unusedSimpArgs false
namespace Go.Ew
open Go.Ev Go.Deep
def bitB (x:Int) (k:Nat):Bool:=decide (andI .u8 (Int.fdiv x (2 ^ (min k (IntKind.bits .u8)))) 1=1)
def setB (x:Int) (k:Nat):Int:=orI .u8 x (IntKind.wrap .u8 (1*(2 ^ (min k (IntKind.bits .u8)))))
theorem bit_zero:∀ j:Fin 8,bitB 0 j.1=false:=by decide +kernel
theorem bit_set:∀ (k j:Fin 8) (x:Fin 256),0≤setB (x.1:Nat) k.1∧setB (x.1:Nat) k.1≤255∧bitB (setB (x.1:Nat) k.1) j.1=(bitB (x.1:Nat) j.1||j.1 == k.1):=by decide +kernel
theorem bit_sum:∀ x:Fin 256,((x.1:Nat):Int)=(List.range 8).foldl (fun a j=>a+if bitB (x.1:Nat) j then 2 ^ j else 0) 0:=by decide +kernel
theorem bit_ext {x y:Int} (hx:0≤x∧x≤255) (hy:0≤y∧y≤255) (h:∀ j,j<8→bitB x j=bitB y j):x=y:=by
 have h1:=bit_sum ⟨x.toNat,by omega⟩
 have h2:=bit_sum ⟨y.toNat,by omega⟩
 have e1:((x.toNat:Nat):Int)=x:=by omega
 have e2:((y.toNat:Nat):Int)=y:=by omega
 simp only [e1,e2] at h1 h2
 rw [h1,h2]
 have:(List.range 8)=[0,1,2,3,4,5,6,7]:=rfl
 rw [this]
 simp only [List.foldl,h 0 (by omega),h 1 (by omega),h 2 (by omega),h 3 (by omega),h 4 (by omega),h 5 (by omega),h 6 (by omega),h 7 (by omega)]
structure Bits (N:Nat) (bs:List Int) (m:List Nat):Prop where
 len:bs.length=N/8+1
 rng:∀ b∈bs,0≤b∧b≤255
 is:∀ (i j:Nat) (b:Int),bs[i]? = some b→j<8→(bitB b j=true↔i*8+j∈m)
theorem Bits.nil (N:Nat):Bits N (List.replicate (N/8+1) 0) []:=⟨by simp,fun b hb=>by rw [List.eq_of_mem_replicate hb]; omega,fun i j b hb hj=>by
 rw [List.getElem?_replicate] at hb
 split at hb
 ·cases hb
  have:=bit_zero ⟨j,hj⟩
  simp only at this
  rw [this]
  simp
 ·cases hb⟩
theorem Bits.add {N:Nat} {bs:List Int} {m:List Nat} (h:Bits N bs m) {x:Nat} (hx:x<N) {b:Int} (hb:bs[x/8]? = some b):Bits N (bs.set (x/8) (setB b (x%8))) (m++[x]):=by
 have hl:x/8<bs.length:=by rw [h.len]; omega
 have hbr:=h.rng b (List.mem_of_getElem? hb)
 have key:∀ j,j<8→0≤setB b (x%8)∧setB b (x%8)≤255∧bitB (setB b (x%8)) j=(bitB b j||j == x%8):=fun j hj=>by
  have:=bit_set ⟨x%8,by omega⟩ ⟨j,hj⟩ ⟨b.toNat,by omega⟩
  have e:((b.toNat:Nat):Int)=b:=by omega
  simp only [e] at this
  exact this
 refine ⟨by rw [List.length_set]; exact h.len,fun c hc=>?_,fun i j c hc hj=>?_⟩
 ·rcases List.mem_or_eq_of_mem_set hc with z | z
  ·exact h.rng c z
  ·rw [z]; exact ⟨(key 0 (by omega)).1,(key 0 (by omega)).2.1⟩
 ·by_cases hi:i=x/8
  ·subst hi
   rw [List.getElem?_set_self hl] at hc
   cases hc
   rw [(key j hj).2.2,Bool.or_eq_true,h.is _ j b hb hj,List.mem_append,List.mem_singleton,beq_iff_eq]
   constructor
   ·rintro (z | z)
    ·exact .inl z
    ·exact .inr (by omega)
   ·rintro (z | z)
    ·exact .inl z
    ·exact .inr (by omega)
  ·rw [List.getElem?_set_ne (fun z=>hi z.symm)] at hc
   rw [h.is i j c hc hj,List.mem_append,List.mem_singleton]
   constructor
   ·exact .inl
   ·rintro (z | z)
    ·exact z
    ·exfalso; exact hi (by omega)
theorem Bits.ext {N:Nat} {bs cs:List Int} {m n:List Nat} (h:Bits N bs m) (g:Bits N cs n) (hs:SameS m n):bs=cs:=by
 apply List.ext_getElem?
 intro i
 by_cases hi:i<bs.length
 ·have hc:i<cs.length:=by rw [g.len,← h.len]; exact hi
  rw [List.getElem?_eq_getElem hi,List.getElem?_eq_getElem hc]
  congr 1
  refine bit_ext (h.rng _ (List.getElem_mem hi)) (g.rng _ (List.getElem_mem hc)) fun j hj=>?_
  have h1:=h.is i j _ (List.getElem?_eq_getElem hi) hj
  have g1:=g.is i j _ (List.getElem?_eq_getElem hc) hj
  rw [Bool.eq_iff_iff,h1,g1]
  exact hs _
 ·rw [List.getElem?_eq_none (by omega),List.getElem?_eq_none (by rw [g.len,← h.len]; omega)]
theorem Bits.same {N:Nat} {bs:List Int} {m n:List Nat} (h:Bits N bs m) (g:Bits N bs n) (hm:∀ x∈m,x<N) (hn:∀ x∈n,x<N):SameS m n:=fun x=>by
 by_cases hx:x<N
 ·have hi:x/8<bs.length:=by rw [h.len]; omega
  have e:x/8*8+x%8=x:=by omega
  have h1:=h.is (x/8) (x%8) _ (List.getElem?_eq_getElem hi) (by omega)
  have g1:=g.is (x/8) (x%8) _ (List.getElem?_eq_getElem hi) (by omega)
  rw [e] at h1 g1
  exact h1.symm.trans g1
 ·exact ⟨fun z=>absurd (hm x z) hx,fun z=>absurd (hn x z) hx⟩
def membB:List Int→Nat→List Nat
 | [],_=>[]
 | b :: r,i=>((List.range 8).filter fun j=>bitB b j).map (fun j=>i*8+j)++membB r (i+1)
theorem memb_mem:∀ (bs:List Int) (i x:Nat),x∈membB bs i↔∃ k b,bs[k]? = some b∧x/8=i+k∧bitB b (x%8)=true
 | [],i,x=>by simp [membB]
 | b :: r,i,x=>by
   rw [membB,List.mem_append,memb_mem r (i+1) x,List.mem_map]
   constructor
   ·rintro (⟨j,z1,z2⟩ | ⟨k,c,z1,z2,z3⟩)
    ·have z1:=List.mem_filter.1 z1
     have hj:j<8:=List.mem_range.1 z1.1
     refine ⟨0,b,rfl,by omega,?_⟩
     have:x%8=j:=by omega
     rw [this]; exact z1.2
    ·exact ⟨k+1,c,by simpa using z1,by omega,z3⟩
   ·rintro ⟨k,c,z1,z2,z3⟩
    match k,z1 with
    | 0,z1 =>
      have:b=c:=by simpa using z1
      subst this
      exact .inl ⟨x%8,List.mem_filter.2 ⟨List.mem_range.2 (by omega),z3⟩,by omega⟩
    | k+1,z1=>exact .inr ⟨k,c,by simpa using z1,by omega,z3⟩
theorem Bits.memb {N:Nat} {bs:List Int} {m:List Nat} (h:Bits N bs m) (hm:∀ x∈m,x<N):SameS (membB bs 0) m:=fun x=>by
 rw [memb_mem]
 constructor
 ·rintro ⟨k,b,z1,z2,z3⟩
  have:=(h.is k (x%8) b z1 (by omega)).1 z3
  have e:k*8+x%8=x:=by omega
  rwa [e] at this
 ·intro z
  have hx:=hm x z
  have hi:x/8<bs.length:=by rw [h.len]; omega
  have e:x/8*8+x%8=x:=by omega
  exact ⟨x/8,bs[x/8],List.getElem?_eq_getElem hi,by omega,(h.is _ _ _ (List.getElem?_eq_getElem hi) (by omega)).2 (by rw [e]; exact z)⟩
end Go.Ew
