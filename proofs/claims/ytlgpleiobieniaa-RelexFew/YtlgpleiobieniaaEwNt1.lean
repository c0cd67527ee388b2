import Derived.Test.YtlgpleiobieniaaEwNf5
import Derived.Test.YtlgpleiobieniaaEwS4
set_option linter.unusedVariables false
set_option linter.unusedSimpArgs false
namespace Go.Ew
open Go.Ev Go.Deep
inductive Mo (R:Nat->Nat->Prop):Nat->Nat->Prop where
 | none (i:Nat):Mo R i i
 | more (i k j:Nat) (h:R i k) (r:Mo R k j):Mo R i j
def Mt (s:ByteArray):Ptn->Nat->Nat->Prop
 | .cls L,i,j=>j=i+1/\i<s.size/\∃ r∈L,r.1<=byteAt s i/\byteAt s i<=r.2
 | .join a b,i,j=>∃ k,Mt s a i k/\Mt s b k j
 | .alt a b,i,j=>Mt s a i j\/Mt s b i j
 | .star a,i,j=>Mo (Mt s a) i j
 | .plus a,i,j=>∃ k,Mt s a i k/\Mo (Mt s a) k j
 | .may a,i,j=>i=j\/Mt s a i j
theorem Mo.sz {R:Nat->Nat->Prop} {n:Nat} (h:∀ i j,R i j->i<=n->j<=n) {i j:Nat} (m:Mo R i j) (hi:i<=n):j<=n:=by
 induction m with
 | none i=>exact hi
 | more i k j h1 _ ih=>exact ih (h i k h1 hi)
def GoSt (S:List St) (s:ByteArray) (x i y j:Nat):Prop :=
 (j=i/\((y:Nat):Int)∈(stAt S x).free)\/(j=i+1/\i<s.size/\(stAt S x).lo<=byteAt s i/\byteAt s i<=(stAt S x).hi/\(stAt S x).next=(y:Nat))
inductive PWay (S:List St) (s:ByteArray):Nat->Nat->Nat->Nat->Nat->Prop where
 | here (x i:Nat):PWay S s 0 x i x i
 | on (n x i y j z k:Nat) (h:GoSt S s x i y j) (r:PWay S s n y j z k):PWay S s (n+1) x i z k
theorem PWay.app {S:List St} {s:ByteArray} {n m x i y j z k:Nat} (h:PWay S s n x i y j) (r:PWay S s m y j z k):PWay S s (n+m) x i z k:=by
 induction h with
 | here x i=>rw [Nat.zero_add]; exact r
 | on n x i y' j' y j h1 _ ih =>
   rw [show n+1+m=(n+m)+1 by omega]
   exact .on _ _ _ _ _ _ _ h1 (ih r)
theorem PWay.one {S:List St} {s:ByteArray} {x i y j:Nat} (h:GoSt S s x i y j):PWay S s 1 x i y j:=.on _ _ _ _ _ _ _ h (.here _ _)
def Led (S:List St) (s:ByteArray) (x i y j:Nat):Prop:=∃ n,PWay S s n x i y j
theorem Led.app {S:List St} {s:ByteArray} {x i y j z k:Nat} (h:Led S s x i y j) (r:Led S s y j z k):Led S s x i z k:=by
 obtain ⟨n,h⟩:=h
 obtain ⟨m,r⟩:=r
 exact ⟨_,h.app r⟩
theorem Led.one {S:List St} {s:ByteArray} {x i y j:Nat} (h:GoSt S s x i y j):Led S s x i y j:=⟨_,.one h⟩
theorem Led.refl {S:List St} {s:ByteArray} (x i:Nat):Led S s x i x i:=⟨_,.here _ _⟩
def Laid (S l:List St) (n:Nat):Prop:=∀ k s,l[k]? = some s->S[n+k]? = some s
theorem Laid.left {S l m:List St} {n:Nat} (h:Laid S (l++m) n):Laid S l n:=fun k s hk=>h k s (by
 rw [List.getElem?_append_left]
 .exact hk
 .rcases Nat.lt_or_ge k l.length with q | q
  .exact q
  .rw [List.getElem?_eq_none q] at hk; cases hk)
theorem Laid.right {S l m:List St} {n:Nat} (h:Laid S (l++m) n):Laid S m (n+l.length):=fun k s hk=>by
 rw [Nat.add_assoc]
 exact h (l.length+k) s (by rw [List.getElem?_append_right (by omega),Nat.add_sub_cancel_left]; exact hk)
theorem Laid.at_ {S l:List St} {n:Nat} (h:Laid S l n) {k:Nat} {s:St} (hk:l[k]? = some s):stAt S (n+k)=s:=by
 unfold stAt; rw [h k s hk]; rfl
theorem Laid.cons {S l:List St} {s:St} {n:Nat} (h:Laid S (s :: l) n):stAt S n=s/\Laid S l (n+1):=by
 refine ⟨h.at_ (k:=0) rfl,fun k t hk=>?_⟩
 rw [show n+1+k=n+(k+1) by omega]
 exact h (k+1) t (by simpa using hk)
structure Blk (S:List St) (s:ByteArray) (e:Nat) (n len nx:Nat) (R:Nat->Nat->Prop):Prop where
 thru:∀ i j,R i j->Led S s e i nx j
 out:∀ m i y j,PWay S s m e i y j->(y<n\/n+len<=y)->∃ k m',m'<=m/\R i k/\PWay S s m' nx k y j
 in_:n<=e/\e<n+len
theorem fork_go {S:List St} {s:ByteArray} {x:Nat} {f:List Int} (h:stAt S x=forkS f) {i y j:Nat}:GoSt S s x i y j↔j=i/\((y:Nat):Int)∈f:=by
 unfold GoSt
 rw [h]
 constructor
 .rintro (q | ⟨_,_,_,_,q⟩)
  .exact q
  .have q:(-1:Int)=(y:Nat):=q
   omega
 .intro q; exact .inl q
theorem PWay.first {S:List St} {s:ByteArray} {m x i y j:Nat} (h:PWay S s m x i y j) (hne:x≠y):∃ m' z k,m=m'+1/\GoSt S s x i z k/\PWay S s m' z k y j:=by
 cases h with
 | here=>exact absurd rfl hne
 | on n _ _ z k _ _ h1 h2=>exact ⟨n,z,k,rfl,h1,h2⟩
theorem loop_out {S:List St} {s:ByteArray} {ea n len nx:Nat} {R:Nat->Nat->Prop} (hb:Blk S s ea (n+1) len n R) (hf:stAt S n=forkS [(ea:Nat),(nx:Nat)]) :
 ∀ m i y j,PWay S s m n i y j->(y<n\/n+(len+1)<=y)->∃ k m',m'<=m/\Mo R i k/\PWay S s m' nx k y j:=by
 intro m
 induction m using Nat.strongRecOn with
 | _ m ih =>
   intro i y j hw hy
   obtain ⟨m1,z,k,hm,hg,hw1⟩:=hw.first (by omega)
   rw [fork_go hf] at hg
   obtain ⟨rfl,hz⟩:=hg
   have hz:z=ea\/z=nx:=by
    simp only [List.mem_cons,List.not_mem_nil,or_false] at hz
    omega
   rcases hz with q | q
   .subst q
    obtain ⟨k,m2,q1,q2,q3⟩:=hb.out m1 _ y j hw1 (by omega)
    obtain ⟨k',m3,r1,r2,r3⟩:=ih m2 (by omega) k y j q3 hy
    exact ⟨k',m3,by omega,.more _ k _ q2 r2,r3⟩
   .subst q
    exact ⟨_,m1,by omega,.none _,hw1⟩
theorem loop_thru {S:List St} {s:ByteArray} {ea n len nx:Nat} {R:Nat->Nat->Prop} (hb:Blk S s ea (n+1) len n R) (hf:stAt S n=forkS [(ea:Nat),(nx:Nat)]) {i j:Nat} (h:Mo R i j):Led S s n i nx j:=by
 induction h with
 | none i=>exact .one ((fork_go hf).2 ⟨rfl,by simp⟩)
 | more i k j h1 _ ih=>exact ((Led.one ((fork_go hf).2 ⟨rfl,by simp⟩)).app (hb.thru i k h1)).app ih
theorem cls_go {S:List St} {s:ByteArray} {x nx:Nat} {r:Rg} (h:stAt S x=clsS5 nx r) {i y j:Nat}:GoSt S s x i y j↔j=i+1/\i<s.size/\r.1<=byteAt s i/\byteAt s i<=r.2/\y=nx:=by
 unfold GoSt
 rw [h]
 constructor
 .rintro (q | ⟨q1,q2,q3,q4,q5⟩)
  .exact absurd q.2 (by simp [clsS5])
  .have q5:((nx:Nat):Int)=(y:Nat):=q5
   exact ⟨q1,q2,q3,q4,by omega⟩
 .rintro ⟨q1,q2,q3,q4,q5⟩
  subst q5
  exact .inr ⟨q1,q2,q3,q4,rfl⟩
theorem map_laid {S:List St} {L:List Rg} {nx n k:Nat} {r:Rg} (h:Laid S (L.map (clsS5 nx)) n) (hk:L[k]? = some r):stAt S (n+k)=clsS5 nx r:=h.at_ (by simp [hk])
theorem bld_blk (S:List St) (s:ByteArray):∀ (t:Ptn) (nx n:Nat),t.okT->Laid S (bld t nx n).1 n->(nx<n\/n+(bld t nx n).1.length<=nx)->Blk S s (bld t nx n).2 n (bld t nx n).1.length nx (Mt s t)
 | .cls L,nx,n,hne,hl,hnx=>by
   have hne:=hne.1
   by_cases h1:L.length=1
   .have hb:bld (.cls L) nx n=(L.map (clsS5 nx),n):=by simp only [bld]; rw [if_pos h1]
    rw [hb] at hl hnx ⊢
    obtain ⟨r,rfl⟩:∃ r,L=[r]:=by
     match L,h1 with
     | [r],_=>exact ⟨r,rfl⟩
    have hs:stAt S n=clsS5 nx r:=map_laid (k:=0) hl rfl
    refine ⟨fun i j h=>.one ((cls_go hs).2 ?_),fun m i y j hw hy=>?_,by simp⟩
    .obtain ⟨q1,q2,r',q3,q4⟩:=h
     have:r'=r:=by simpa using q3
     subst this
     exact ⟨q1,q2,q4.1,q4.2,rfl⟩
    .simp only [List.length_map,List.length_cons,List.length_nil] at hy
     obtain ⟨m1,z,k,hm,hg,hw1⟩:=hw.first (by omega)
     obtain ⟨q1,q2,q3,q4,q5⟩:=(cls_go hs).1 hg
     subst q5
     exact ⟨k,m1,by omega,⟨q1,q2,r,by simp,q3,q4⟩,hw1⟩
   .have hb:bld (.cls L) nx n=(L.map (clsS5 nx)++[forkS (waysM n L.length)],n+L.length):=by simp only [bld]; rw [if_neg h1]; rfl
    rw [hb] at hl hnx ⊢
    have hlm:=hl.left
    have hfk:stAt S (n+L.length)=forkS (waysM n L.length):=by
     have:=hl.right
     rw [List.length_map] at this
     exact this.cons.1
    refine ⟨fun i j h=>?_,fun m i y j hw hy=>?_,by simp⟩
    .obtain ⟨q1,q2,r,q3,q4⟩:=h
     obtain ⟨k,hk⟩:=List.getElem?_of_mem q3
     have hkl:k<L.length:=by
      rcases Nat.lt_or_ge k L.length with q | q
      .exact q
      .rw [List.getElem?_eq_none q] at hk; cases hk
     have a1:GoSt S s (n+L.length) i (n+k) i:=(fork_go hfk).2 ⟨rfl,by
      unfold waysM
      rw [List.mem_map]
      exact ⟨k,by simp [hkl],rfl⟩⟩
     have a2:GoSt S s (n+k) i nx j:=(cls_go (map_laid hlm hk)).2 ⟨q1,q2,q4.1,q4.2,rfl⟩
     exact (Led.one a1).app (.one a2)
    .simp only [List.length_append,List.length_map,List.length_cons,List.length_nil] at hy
     obtain ⟨m1,z,k,hm,hg,hw1⟩:=hw.first (by omega)
     obtain ⟨rfl,hz⟩:=(fork_go hfk).1 hg
     unfold waysM at hz
     rw [List.mem_map] at hz
     obtain ⟨q,hq1,hq2⟩:=hz
     have hq1:q<L.length:=by simpa using hq1
     have hzq:z=n+q:=by omega
     subst hzq
     have hst:=map_laid hlm (show L[q]? = some L[q] by simp [hq1])
     obtain ⟨m2,z2,k2,hm2,hg2,hw2⟩:=hw1.first (by omega)
     obtain ⟨q1,q2,q3,q4,q5⟩:=(cls_go hst).1 hg2
     subst q5
     exact ⟨k2,m2,by omega,⟨q1,q2,L[q],List.getElem_mem hq1,q3,q4⟩,hw2⟩
 | .join a b,nx,n,hok,hl,hnx=>by
   simp only [bld] at hl hnx ⊢
   have hb:=bld_blk S s b nx n hok.2 hl.left (by rw [List.length_append] at hnx; omega)
   have hin:=hb.in_
   have ha:=bld_blk S s a (bld b nx n).2 (n+(bld b nx n).1.length) hok.1 hl.right (by omega)
   have hia:=ha.in_
   rw [List.length_append] at hnx ⊢
   refine ⟨fun i j ⟨k,h1,h2⟩=>(ha.thru i k h1).app (hb.thru k j h2),fun m i y j hw hy=>?_,by omega⟩
   obtain ⟨k,m1,q1,q2,q3⟩:=ha.out m i y j hw (by omega)
   obtain ⟨k2,m2,r1,r2,r3⟩:=hb.out m1 k y j q3 (by omega)
   exact ⟨k2,m2,by omega,⟨k,q2,r2⟩,r3⟩
 | .alt a b,nx,n,hok,hl,hnx=>by
   simp only [bld] at hl hnx ⊢
   simp only [List.length_append,List.length_cons,List.length_nil] at hnx ⊢
   have ha:=bld_blk S s a nx n hok.1 hl.left.left (by omega)
   have hb:=bld_blk S s b nx (n+(bld a nx n).1.length) hok.2 hl.left.right (by omega)
   have hia:=ha.in_
   have hib:=hb.in_
   have hf:=(hl.right).cons.1
   rw [List.length_append,<- Nat.add_assoc] at hf
   refine ⟨fun i j h=>?_,fun m i y j hw hy=>?_,by omega⟩
   .rcases h with h | h
    .exact (Led.one ((fork_go hf).2 ⟨rfl,by simp⟩)).app (ha.thru i j h)
    .exact (Led.one ((fork_go hf).2 ⟨rfl,by simp⟩)).app (hb.thru i j h)
   .obtain ⟨m1,z,k,hm,hg,hw1⟩:=hw.first (by omega)
    obtain ⟨rfl,hz⟩:=(fork_go hf).1 hg
    simp only [List.mem_cons,List.not_mem_nil,or_false] at hz
    rcases hz with hz | hz
    .have:z=(bld a nx n).2:=by omega
     subst this
     obtain ⟨k,m2,q1,q2,q3⟩:=ha.out m1 _ y j hw1 (by omega)
     exact ⟨k,m2,by omega,.inl q2,q3⟩
    .have:z=(bld b nx (n+(bld a nx n).1.length)).2:=by omega
     subst this
     obtain ⟨k,m2,q1,q2,q3⟩:=hb.out m1 _ y j hw1 (by omega)
     exact ⟨k,m2,by omega,.inr q2,q3⟩
 | .star a,nx,n,hok,hl,hnx=>by
   simp only [bld] at hl hnx ⊢
   simp only [List.length_cons] at hnx ⊢
   obtain ⟨hf,hl'⟩:=hl.cons
   have ha:=bld_blk S s a n (n+1) hok hl' (by omega)
   exact ⟨fun i j h=>loop_thru ha hf h,fun m i y j hw hy=>loop_out ha hf m i y j hw (by omega),by omega⟩
 | .plus a,nx,n,hok,hl,hnx=>by
   simp only [bld] at hl hnx ⊢
   simp only [List.length_cons] at hnx ⊢
   obtain ⟨hf,hl'⟩:=hl.cons
   have ha:=bld_blk S s a n (n+1) hok hl' (by omega)
   have hia:=ha.in_
   refine ⟨fun i j ⟨k,h1,h2⟩=>(ha.thru i k h1).app (loop_thru ha hf h2),fun m i y j hw hy=>?_,by omega⟩
   obtain ⟨k,m1,q1,q2,q3⟩:=ha.out m i y j hw (by omega)
   obtain ⟨k2,m2,r1,r2,r3⟩:=loop_out ha hf m1 k y j q3 (by omega)
   exact ⟨k2,m2,by omega,⟨k,q2,r2⟩,r3⟩
 | .may a,nx,n,hok,hl,hnx=>by
   simp only [bld] at hl hnx ⊢
   simp only [List.length_append,List.length_cons,List.length_nil] at hnx ⊢
   have ha:=bld_blk S s a nx n hok hl.left (by omega)
   have hia:=ha.in_
   have hf:=(hl.right).cons.1
   refine ⟨fun i j h=>?_,fun m i y j hw hy=>?_,by omega⟩
   .rcases h with h | h
    .subst h
     exact .one ((fork_go hf).2 ⟨rfl,by simp⟩)
    .exact (Led.one ((fork_go hf).2 ⟨rfl,by simp⟩)).app (ha.thru i j h)
   .obtain ⟨m1,z,k,hm,hg,hw1⟩:=hw.first (by omega)
    obtain ⟨rfl,hz⟩:=(fork_go hf).1 hg
    simp only [List.mem_cons,List.not_mem_nil,or_false] at hz
    rcases hz with hz | hz
    .have:z=(bld a nx n).2:=by omega
     subst this
     obtain ⟨k,m2,q1,q2,q3⟩:=ha.out m1 _ y j hw1 (by omega)
     exact ⟨k,m2,by omega,.inr q2,q3⟩
    .have:z=nx:=by omega
     subst this
     exact ⟨_,m1,by omega,.inl rfl,hw1⟩
theorem addS_mem {N:Nat} {m:List Nat} {x:Int} {y:Nat}:y∈addS N m x↔y∈m\/(x=(y:Nat)/\y<N):=by
 unfold addS
 split
 .constructor
  .exact .inl
  .rintro (h | ⟨h,_⟩)
   .exact h
   .omega
 split
 .constructor
  .exact .inl
  .rintro (h | ⟨h,_⟩)
   .exact h
   .omega
 split
 .rename_i h1 h2 h3
  constructor
  .exact .inl
  .rintro (h | ⟨h,_⟩)
   .exact h
   .have:x.toNat=y:=by omega
    rw [<- this]; exact h3
 .rename_i h1 h2 h3
  rw [List.mem_append,List.mem_singleton]
  constructor
  .rintro (h | h)
   .exact .inl h
   .exact .inr ⟨by omega,by omega⟩
  .rintro (h | ⟨h,_⟩)
   .exact .inl h
   .exact .inr (by omega)
structure Fit (N:Nat) (m:List Nat):Prop where
 nod:m.Nodup
 lt:∀ x∈m,x<N
theorem addS_fit {N:Nat} {m:List Nat} {x:Int} (h:Fit N m):Fit N (addS N m x):=by
 refine ⟨?_,fun y hy=>?_⟩
 .unfold addS
  split
  .exact h.nod
  split
  .exact h.nod
  split
  .exact h.nod
  .rename_i h3
   rw [List.nodup_append]
   exact ⟨h.nod,by simp,fun a z1 b z2 z3=>by
    have z2:b=x.toNat:=by simpa using z2
    exact h3 (by rw [<- z2,<- z3]; exact z1)⟩
 .rcases addS_mem.1 hy with q | q
  .exact h.lt y q
  .exact q.2
theorem addF_mem {N:Nat}:∀ (f:List Int) (m:List Nat) (y:Nat),y∈f.foldl (addS N) m↔y∈m\/(((y:Nat):Int)∈f/\y<N)
 | [],m,y=>by simp
 | x :: f,m,y=>by
   rw [List.foldl_cons,addF_mem f,addS_mem,List.mem_cons]
   constructor
   .rintro ((h | h) | h)
    .exact .inl h
    .exact .inr ⟨.inl h.1.symm,h.2⟩
    .exact .inr ⟨.inr h.1,h.2⟩
   .rintro (h | ⟨h | h,h2⟩)
    .exact .inl (.inl h)
    .exact .inl (.inr ⟨h.symm,h2⟩)
    .exact .inr ⟨h,h2⟩
theorem addF_fit {N:Nat}:∀ (f:List Int) (m:List Nat),Fit N m->Fit N (f.foldl (addS N) m)
 | [],m,h=>h
 | x :: f,m,h=>addF_fit f _ (addS_fit h)
theorem spM_spec {S:List St}:∀ (f i:Nat) (m:List Nat),Fit S.length m->i<=m.length->S.length+1-i<=f->(∀ k x y,k<i->m[k]? = some x->((y:Nat):Int)∈(stAt S x).free->y<S.length->y∈m)->
 Fit S.length (spM S f i m)/\(∀ x∈m,x∈spM S f i m)/\(∀ x y,x∈spM S f i m->((y:Nat):Int)∈(stAt S x).free->y<S.length->y∈spM S f i m)/\
 ∀ P:Nat->Prop,(∀ x∈m,P x)->(∀ x y,P x->((y:Nat):Int)∈(stAt S x).free->y<S.length->P y)->∀ z∈spM S f i m,P z:=by
 intro f
 induction f with
 | zero =>
   intro i m hf hi hfu
   have:=nodup_le _ m hf.nod hf.lt
   omega
 | succ f ih =>
   intro i m hf hi hfu hcl
   rw [spM]
   cases hm:m[i]? with
   | none =>
     have hge:m.length<=i:=by
      rcases Nat.lt_or_ge i m.length with q | q
      .simp [q] at hm
      .exact q
     refine ⟨hf,fun x hx=>hx,fun x y hx hy hyl=>?_,fun P h1 _ z hz=>h1 z hz⟩
     obtain ⟨k,hk⟩:=List.getElem?_of_mem hx
     have hkl:k<m.length:=by
      rcases Nat.lt_or_ge k m.length with q | q
      .exact q
      .rw [List.getElem?_eq_none q] at hk; cases hk
     exact hcl k x y (by omega) hk hy hyl
   | some x =>
     have hil:i<m.length:=by
      rcases Nat.lt_or_ge i m.length with q | q
      .exact q
      .rw [List.getElem?_eq_none q] at hm; cases hm
     obtain ⟨r,hr⟩:=addF_grow (N:=S.length) (stAt S x).free m
     obtain ⟨g1,g2,g3,g4⟩:=ih (i+1) ((stAt S x).free.foldl (addS S.length) m) (addF_fit _ _ hf) (by rw [hr,List.length_append]; omega) (by omega) (fun k z y hk hz hy hyl=>by
      rw [addF_mem]
      by_cases hki:k=i
      .subst hki
       rw [hr,List.getElem?_append_left hil,hm] at hz
       cases hz
       exact .inr ⟨hy,hyl⟩
      .rw [hr,List.getElem?_append_left (by omega)] at hz
       exact .inl (hcl k z y (by omega) hz hy hyl))
     refine ⟨g1,fun z hz=>g2 z ((addF_mem _ _ _).2 (.inl hz)),g3,fun P h1 h2 z hz=>g4 P (fun w hw=>?_) h2 z hz⟩
     rcases (addF_mem _ _ _).1 hw with q | q
     .exact h1 w q
     .exact h2 x w (h1 x (List.mem_of_getElem? hm)) q.1 q.2
theorem clM_spec {S:List St} {m:List Nat} (h:Fit S.length m):Fit S.length (clM S m)/\(∀ x∈m,x∈clM S m)/\(∀ x y,x∈clM S m->((y:Nat):Int)∈(stAt S x).free->y<S.length->y∈clM S m)/\
 ∀ P:Nat->Prop,(∀ x∈m,P x)->(∀ x y,P x->((y:Nat):Int)∈(stAt S x).free->y<S.length->P y)->∀ z∈clM S m,P z :=
 spM_spec (S.length+1) 0 m h (by omega) (by omega) (fun k x y hk=>by omega)
theorem moveF_mem {S:List St} {c:Int}:∀ (m t:List Nat) (y:Nat),y∈m.foldl (moveM S c) t↔y∈t\/(∃ x∈m,(stAt S x).lo<=c/\c<=(stAt S x).hi/\(stAt S x).next=(y:Nat))/\y<S.length\/y∈t
 | [],t,y=>by simp
 | x :: m,t,y=>by
   rw [List.foldl_cons,moveF_mem m]
   have hm:y∈moveM S c t x↔y∈t\/(((stAt S x).lo<=c/\c<=(stAt S x).hi/\(stAt S x).next=(y:Nat))/\y<S.length):=by
    unfold moveM
    split
    .rename_i h
     rw [addS_mem]
     constructor
     .rintro (q | ⟨q1,q2⟩)
      .exact .inl q
      .exact .inr ⟨⟨h.1,h.2,q1⟩,q2⟩
     .rintro (q | ⟨⟨_,_,q1⟩,q2⟩)
      .exact .inl q
      .exact .inr ⟨q1,q2⟩
    .rename_i h
     constructor
     .exact .inl
     .rintro (q | ⟨⟨q1,q2,_⟩,_⟩)
      .exact q
      .exact absurd ⟨q1,q2⟩ h
   rw [hm]
   constructor
   .rintro ((q | q) | ⟨⟨w,hw,q⟩,q2⟩ | (q | q))
    .exact .inl q
    .exact .inr (.inl ⟨⟨x,by simp,q.1⟩,q.2⟩)
    .exact .inr (.inl ⟨⟨w,by simp [hw],q⟩,q2⟩)
    .exact .inl q
    .exact .inr (.inl ⟨⟨x,by simp,q.1⟩,q.2⟩)
   .rintro (q | ⟨⟨w,hw,q⟩,q2⟩ | q)
    .exact .inl (.inl q)
    .rcases List.mem_cons.1 hw with z | z
     .subst z; exact .inl (.inr ⟨q,q2⟩)
     .exact .inr (.inl ⟨⟨w,z,q⟩,q2⟩)
    .exact .inl (.inl q)
theorem moveF_fit {S:List St} {c:Int}:∀ (m t:List Nat),Fit S.length t->Fit S.length (m.foldl (moveM S c) t)
 | [],t,h=>h
 | x :: m,t,h=>moveF_fit m _ (by
   unfold moveM
   split
   .exact addS_fit h
   .exact h)
theorem fit_nil (N:Nat):Fit N []:=⟨List.nodup_nil,fun x hx=>by cases hx⟩
def Sq (S:List St) (s:ByteArray):Nat->List Nat
 | 0=>begM S
 | i+1=>stepM S (byteAt s i) (Sq S s i)
theorem Sq_fit (S:List St) (s:ByteArray):∀ i,Fit S.length (Sq S s i)
 | 0=>(clM_spec (addS_fit (fit_nil _))).1
 | i+1=>(clM_spec (moveF_fit _ _ (fit_nil _))).1
theorem Sq_closed (S:List St) (s:ByteArray) (i x y:Nat) (h:x∈Sq S s i) (hy:((y:Nat):Int)∈(stAt S x).free) (hl:y<S.length):y∈Sq S s i:=by
 cases i with
 | zero=>exact (clM_spec (addS_fit (fit_nil _))).2.2.1 x y h hy hl
 | succ i=>exact (clM_spec (moveF_fit _ _ (fit_nil _))).2.2.1 x y h hy hl
theorem Sq_next (S:List St) (s:ByteArray) (i x y:Nat) (h:x∈Sq S s i) (h1:(stAt S x).lo<=byteAt s i) (h2:byteAt s i<=(stAt S x).hi) (h3:(stAt S x).next=(y:Nat)) (hl:y<S.length):y∈Sq S s (i+1) :=
 (clM_spec (moveF_fit _ _ (fit_nil _))).2.1 y ((moveF_mem _ _ _).2 (.inr (.inl ⟨⟨x,h,h1,h2,h3⟩,hl⟩)))
theorem Sq_led (S:List St) (s:ByteArray):∀ i,i<=s.size->∀ y∈Sq S s i,Led S s 0 0 y i
 | 0,_,y,hy=>by
   refine (clM_spec (addS_fit (fit_nil _))).2.2.2 (fun z=>Led S s 0 0 z 0) (fun x hx=>?_) (fun x z hx hz _=>hx.app (.one (.inl ⟨rfl,hz⟩))) y hy
   rcases addS_mem.1 hx with q | q
   .cases q
   .have:x=0:=by omega
    subst this; exact .refl _ _
 | i+1,hi,y,hy=>by
   refine (clM_spec (moveF_fit _ _ (fit_nil _))).2.2.2 (fun z=>Led S s 0 0 z (i+1)) (fun x hx=>?_) (fun x z hx hz _=>hx.app (.one (.inl ⟨rfl,hz⟩))) y hy
   rcases (moveF_mem _ _ _).1 hx with q | ⟨⟨w,hw,q1,q2,q3⟩,_⟩ | q
   .cases q
   .exact (Sq_led S s i (by omega) w hw).app (.one (.inr ⟨rfl,by omega,q1,q2,q3⟩))
   .cases q
theorem st_out {S:List St} {x:Nat} (h:S.length<=x):stAt S x=st0:=by
 unfold stAt; rw [List.getElem?_eq_none h]; rfl
theorem Sq_all (S:List St) (s:ByteArray) {n x i y j:Nat} (h:PWay S s n x i y j):x∈Sq S s i->y<S.length->y∈Sq S s j:=by
 induction h with
 | here x i=>exact fun h _=>h
 | on n x i z k y j h1 h2 ih =>
   intro hx hy
   have hz:z<S.length\/S.length<=z:=Nat.lt_or_ge _ _
   rcases hz with hz | hz
   .refine ih ?_ hy
    rcases h1 with ⟨rfl,q⟩ | ⟨rfl,_,q1,q2,q3⟩
    .exact Sq_closed S s _ x z hx q hz
    .exact Sq_next S s i x z hx q1 q2 q3 hz
   .exfalso
    cases h2 with
    | here=>omega
    | on n _ _ w l _ _ g1 g2 =>
      unfold GoSt at g1
      rw [st_out hz] at g1
      rcases g1 with ⟨_,q⟩ | ⟨_,_,_,_,q⟩
      .cases q
      .have q:(-1:Int)=(w:Nat):=q
       omega
theorem Sq_iff (S:List St) (s:ByteArray) (h0:0<S.length) {y j:Nat} (hj:j<=s.size):y∈Sq S s j↔y<S.length/\Led S s 0 0 y j:=by
 constructor
 .intro h
  exact ⟨(Sq_fit S s j).lt y h,Sq_led S s j hj y h⟩
 .rintro ⟨h1,n,h2⟩
  exact Sq_all S s h2 ((clM_spec (addS_fit (fit_nil _))).2.1 0 (addS_mem.2 (.inr ⟨rfl,h0⟩))) h1
theorem least_spec (S:List St):∀ (m:List Nat) (l:Int),(m.foldl (leastM S) l=0↔l=0/\∀ x∈m,(stAt S x).e=0)/\(m.foldl (leastM S) l≠0->(m.foldl (leastM S) l=l\/∃ x∈m,(stAt S x).e=m.foldl (leastM S) l)/\(l≠0->m.foldl (leastM S) l<=l)/\∀ x∈m,(stAt S x).e≠0->m.foldl (leastM S) l<=(stAt S x).e)
 | [],l=>⟨by simp,fun h=>⟨.inl rfl,fun _=>Int.le_refl _,fun x hx=>by cases hx⟩⟩
 | x :: m,l=>by
   obtain ⟨h1,h2⟩:=least_spec S m (leastM S l x)
   rw [List.foldl_cons]
   have hk:(leastM S l x=0↔l=0/\(stAt S x).e=0)/\(leastM S l x=l\/leastM S l x=(stAt S x).e)/\(l≠0->leastM S l x<=l)/\((stAt S x).e≠0->leastM S l x<=(stAt S x).e):=by
    unfold leastM
    split
    .split
     .rename_i q1 q2
      exact ⟨⟨fun q=>absurd q q1,fun q=>absurd q.2 q1⟩,.inr rfl,fun q=>absurd q2 q,fun _=>Int.le_refl _⟩
     split
     .rename_i q1 q2 q3
      exact ⟨⟨fun q=>absurd q q1,fun q=>absurd q.2 q1⟩,.inr rfl,fun q=>by omega,fun _=>Int.le_refl _⟩
     .rename_i q1 q2 q3
      exact ⟨⟨fun q=>absurd q q2,fun q=>absurd q.1 q2⟩,.inl rfl,fun q=>Int.le_refl _,fun _=>by omega⟩
    .rename_i q1
     have q1:(stAt S x).e=0:=by simpa using q1
     exact ⟨⟨fun q=>⟨q,q1⟩,fun q=>q.1⟩,.inl rfl,fun q=>Int.le_refl _,fun q=>absurd q1 q⟩
   obtain ⟨k1,k2,k3,k4⟩:=hk
   refine ⟨?_,fun hne=>?_⟩
   .rw [h1,k1]
    constructor
    .rintro ⟨⟨q1,q2⟩,q3⟩
     exact ⟨q1,fun y hy=>by
      rcases List.mem_cons.1 hy with z | z
      .rw [z]; exact q2
      .exact q3 y z⟩
    .rintro ⟨q1,q2⟩
     exact ⟨⟨q1,q2 x (by simp)⟩,fun y hy=>q2 y (by simp [hy])⟩
   .obtain ⟨g1,g2,g3⟩:=h2 hne
    refine ⟨?_,fun hl=>?_,fun y hy hye=>?_⟩
    .rcases g1 with q | ⟨y,hy,q⟩
     .rcases k2 with z | z
      .exact .inl (by rw [q,z])
      .exact .inr ⟨x,by simp,by rw [q,z]⟩
     .exact .inr ⟨y,by simp [hy],q⟩
    .have:=k3 hl
     by_cases hz:leastM S l x=0
     .exact absurd (k1.1 hz).1 hl
     .have:=g2 hz; omega
    .rcases List.mem_cons.1 hy with z | z
     .subst z
      have:=k4 hye
      by_cases hz:leastM S l y=0
      .exact absurd (k1.1 hz).2 hye
      .have:=g2 hz; omega
     .exact g3 y z hye
theorem endM_spec (S:List St) (m:List Nat):(endM S m=0↔∀ x∈m,(stAt S x).e=0)/\(endM S m≠0->(∃ x∈m,(stAt S x).e=endM S m)/\∀ x∈m,(stAt S x).e≠0->endM S m<=(stAt S x).e):=by
 obtain ⟨h1,h2⟩:=least_spec S m 0
 refine ⟨by unfold endM; rw [h1]; simp,fun hne=>?_⟩
 obtain ⟨g1,_,g3⟩:=h2 hne
 refine ⟨?_,g3⟩
 rcases g1 with q | q
 .exact absurd q hne
 .exact q
theorem ofM_spec (S:List St):∀ (ts:List (List It)) (k:Nat) (f:List Int) (tl:List St),Laid S (ofM ts k f tl).2 1->
 (∃ T,(ofM ts k f tl).2=tl++T)/\∃ F,(ofM ts k f tl).1=f++F/\F.length=ts.length/\∀ (j:Nat) l,ts[j]? = some l->∃ E,1<=E/\stAt S E=endS (k+j)/\Laid S (bld (treeD l) E (E+1)).1 (E+1)/\F[j]? = some (((bld (treeD l) E (E+1)).2:Nat):Int)
 | [],k,f,tl,h=>⟨⟨[],by simp [ofM]⟩,[],by simp [ofM],rfl,fun j l hl=>by simp at hl⟩
 | l :: ts,k,f,tl,h=>by
   rw [ofM] at h ⊢
   obtain ⟨⟨T,hT⟩,F,h1,h2,h3⟩:=ofM_spec S ts (k+1) _ _ h
   have hlaid:=h
   rw [hT,List.append_assoc] at hlaid
   have hr:=hlaid.right
   obtain ⟨he,hb⟩:=Laid.cons (l:=_) (by simpa using hr)
   refine ⟨⟨_,by rw [hT,List.append_assoc]⟩,((bld (treeD l) (tl.length+1) (tl.length+2)).2:Int) :: F,by rw [h1]; simp,by simp [h2],fun j l' hl'=>?_⟩
   cases j with
   | zero =>
     have hl':l=l':=by simpa using hl'
     subst hl'
     refine ⟨1+tl.length,by omega,he,?_,?_⟩
     .have e1:1+tl.length=tl.length+1:=by omega
      rw [e1] at hb ⊢
      exact Laid.left (m:=T) (by simpa using hb)
     .have e1:1+tl.length=tl.length+1:=by omega
      rw [e1]; rfl
   | succ j =>
     obtain ⟨E,e1,e2,e3,e4⟩:=h3 j l' (by simpa using hl')
     exact ⟨E,e1,by rw [show k+(j+1)=k+1+j by omega]; exact e2,e3,by simpa using e4⟩
theorem bld_e:∀ (t:Ptn) (nx n:Nat) (k:Nat) (s:St),(bld t nx n).1[k]? = some s->s.e=0
 | .cls L,nx,n,k,s,h=>by
   have hm:=List.mem_of_getElem? h
   simp only [bld] at hm
   split at hm
   .obtain ⟨r,_,rfl⟩:=List.mem_map.1 hm; rfl
   .rcases List.mem_append.1 hm with hm | hm
    .obtain ⟨r,_,rfl⟩:=List.mem_map.1 hm; rfl
    .have:=List.mem_singleton.1 hm; rw [this]; rfl
 | .join a b,nx,n,k,s,h=>by
   have hm:=List.mem_of_getElem? h
   simp only [bld] at hm
   rcases List.mem_append.1 hm with hm | hm
   .obtain ⟨i,hi⟩:=List.getElem?_of_mem hm; exact bld_e b _ _ i s hi
   .obtain ⟨i,hi⟩:=List.getElem?_of_mem hm; exact bld_e a _ _ i s hi
 | .alt a b,nx,n,k,s,h=>by
   have hm:=List.mem_of_getElem? h
   simp only [bld] at hm
   rcases List.mem_append.1 hm with hm | hm
   .rcases List.mem_append.1 hm with hm | hm
    .obtain ⟨i,hi⟩:=List.getElem?_of_mem hm; exact bld_e a _ _ i s hi
    .obtain ⟨i,hi⟩:=List.getElem?_of_mem hm; exact bld_e b _ _ i s hi
   .have:=List.mem_singleton.1 hm; rw [this]; rfl
 | .star a,nx,n,k,s,h=>by
   have hm:=List.mem_of_getElem? h
   simp only [bld] at hm
   rcases List.mem_cons.1 hm with hm | hm
   .rw [hm]; rfl
   .obtain ⟨i,hi⟩:=List.getElem?_of_mem hm; exact bld_e a _ _ i s hi
 | .plus a,nx,n,k,s,h=>by
   have hm:=List.mem_of_getElem? h
   simp only [bld] at hm
   rcases List.mem_cons.1 hm with hm | hm
   .rw [hm]; rfl
   .obtain ⟨i,hi⟩:=List.getElem?_of_mem hm; exact bld_e a _ _ i s hi
 | .may a,nx,n,k,s,h=>by
   have hm:=List.mem_of_getElem? h
   simp only [bld] at hm
   rcases List.mem_append.1 hm with hm | hm
   .obtain ⟨i,hi⟩:=List.getElem?_of_mem hm; exact bld_e a _ _ i s hi
   .have:=List.mem_singleton.1 hm; rw [this]; rfl
theorem led_end {pats:List (List It)} (hg:∀ l∈pats,(treeD l).okT) {s:ByteArray} {j:Nat} {v:Int} (hv:v≠0) :
 (∃ y,Led (nfaM pats) s 0 0 y j/\(stAt (nfaM pats) y).e=v)↔∃ (k:Nat) (l:List It),pats[k]? = some l/\v=((k+1:Nat):Int)/\Mt s (treeD l) 0 j:=by
 have hl1:Laid (nfaM pats) (ofM pats 0 [] []).2 1:=by
  have:Laid (nfaM pats) (forkS (ofM pats 0 [] []).1 :: (ofM pats 0 [] []).2) 0:=fun k s hk=>by rw [Nat.zero_add]; exact hk
  exact this.cons.2
 have hst:stAt (nfaM pats) 0=forkS (ofM pats 0 [] []).1:=rfl
 obtain ⟨_,F,h1,h2,h3⟩:=ofM_spec (nfaM pats) pats 0 [] [] hl1
 rw [h1,List.nil_append] at hst
 have endgo:∀ {E k i y j},stAt (nfaM pats) E=endS k->¬ GoSt (nfaM pats) s E i y j:=fun {E k i y j} he hg=>by
  unfold GoSt at hg
  rw [he] at hg
  rcases hg with ⟨_,q⟩ | ⟨_,_,_,_,q⟩
  .cases q
  .have q:(-1:Int)=(y:Nat):=q
   omega
 constructor
 .rintro ⟨y,⟨n,hw⟩,hy⟩
  have hy0:0≠y:=fun q=>by
   rw [<- q,hst] at hy
   exact hv hy.symm
  obtain ⟨m1,z,k,hm,hgo,hw1⟩:=hw.first hy0
  obtain ⟨rfl,hz⟩:=(fork_go hst).1 hgo
  obtain ⟨q,hq⟩:=List.getElem?_of_mem hz
  have hql:q<pats.length:=by
   rcases Nat.lt_or_ge q pats.length with u | u
   .exact u
   .rw [List.getElem?_eq_none (by omega)] at hq; cases hq
  have hpq:pats[q]? = some pats[q]:=by simp [hql]
  obtain ⟨E,e1,e2,e3,e4⟩:=h3 q _ hpq
  rw [hq] at e4
  have hzE:z=(bld (treeD pats[q]) E (E+1)).2:=by injection e4 with e4; omega
  subst hzE
  have hb:=bld_blk (nfaM pats) s (treeD pats[q]) E (E+1) (hg _ (List.getElem_mem hql)) e3 (by omega)
  have hyo:y<E+1\/E+1+(bld (treeD pats[q]) E (E+1)).1.length<=y:=by
   apply Classical.byContradiction
   intro hno
   have hin:E+1<=y/\y<E+1+(bld (treeD pats[q]) E (E+1)).1.length:=by omega
   have hk:(bld (treeD pats[q]) E (E+1)).1[y-(E+1)]? = some ((bld (treeD pats[q]) E (E+1)).1[y-(E+1)]'(by omega)):=List.getElem?_eq_getElem (by omega)
   have hat:=e3.at_ hk
   rw [show E+1+(y-(E+1))=y by omega] at hat
   rw [hat,bld_e _ _ _ _ _ hk] at hy
   exact hv hy.symm
  obtain ⟨k,m2,q1,q2,q3⟩:=hb.out m1 _ y j hw1 hyo
  have hEy:E=y/\k=j:=by
   cases q3 with
   | here=>exact ⟨rfl,rfl⟩
   | on n _ _ w l _ _ g1 g2=>exact absurd g1 (endgo e2)
  obtain ⟨rfl,rfl⟩:=hEy
  rw [e2] at hy
  refine ⟨q,_,hpq,?_,q2⟩
  rw [<- hy]
  show ((0+q+1:Nat):Int)=_
  rw [Nat.zero_add]
 .rintro ⟨k,l,hk,hvk,hm⟩
  obtain ⟨E,e1,e2,e3,e4⟩:=h3 k l hk
  have hmem:l∈pats:=List.mem_of_getElem? hk
  have hb:=bld_blk (nfaM pats) s (treeD l) E (E+1) (hg l hmem) e3 (by omega)
  refine ⟨E,(Led.one ((fork_go hst).2 ⟨rfl,List.mem_of_getElem? e4⟩)).app (hb.thru 0 j hm),?_⟩
  rw [e2,hvk]
  show ((0+k+1:Nat):Int)=_
  rw [Nat.zero_add]
def Has (pats:List (List It)) (s:ByteArray) (k j:Nat):Prop:=∃ l,pats[k]? = some l/\Mt s (treeD l) 0 j
inductive LgSpec (M:Nat->Nat->Prop) (n:Nat):Int × Int × Bool->Prop where
 | no (h:∀ k j,1<=j->j<=n->¬ M k j):LgSpec M n (0,0,false)
 | yes (k j:Nat) (h1:1<=j) (h2:j<=n) (h3:M k j) (h4:∀ k' j',j<j'->j'<=n->¬ M k' j') (h5:∀ k',k'<k->¬ M k' j):LgSpec M n (((k:Nat):Int),((j:Nat):Int),true)
theorem LgSpec.same {M:Nat->Nat->Prop} {n:Nat} {r r':Int × Int × Bool} (h:LgSpec M n r) (h':LgSpec M n r'):r=r':=by
 cases h with
 | no h =>
   cases h' with
   | no h'=>rfl
   | yes k j h1 h2 h3=>exact absurd h3 (h k j h1 h2)
 | yes k j h1 h2 h3 h4 h5 =>
   cases h' with
   | no h'=>exact absurd h3 (h' k j h1 h2)
   | yes k' j' g1 g2 g3 g4 g5 =>
     have hj:j=j':=by
      rcases Nat.lt_trichotomy j j' with q | q | q
      .exact absurd g3 (h4 k' j' q g2)
      .exact q
      .exact absurd h3 (g4 k j q h2)
     subst hj
     have hk:k=k':=by
      rcases Nat.lt_trichotomy k k' with q | q | q
      .exact absurd h3 (g5 k q)
      .exact q
      .exact absurd g3 (h5 k' q)
     subst hk
     rfl
theorem lgN_spec {pats:List (List It)} (hg:∀ l∈pats,(treeD l).okT) (hp:pats.length<=1000) {s:ByteArray} (hs:s.size<=1000000):∀ (f i:Nat) (r:Int × Int × Bool),i+f=s.size->LgSpec (Has pats s) i r->LgSpec (Has pats s) s.size (lgN (nfaM pats) s f i (Sq (nfaM pats) s i) r):=by
 have h0:0<(nfaM pats).length:=by unfold nfaM; simp
 have hends:∀ j,j<=s.size->(∀ v,v≠0->((∃ y∈Sq (nfaM pats) s j,(stAt (nfaM pats) y).e=v)↔∃ k:Nat,v=((k+1:Nat):Int)/\Has pats s k j)):=fun j hj v hv=>by
  have:=led_end hg (s:=s) (j:=j) hv
  constructor
  .rintro ⟨y,h1,h2⟩
   obtain ⟨k,l,q1,q2,q3⟩:=this.1 ⟨y,((Sq_iff _ _ h0 hj).1 h1).2,h2⟩
   exact ⟨k,q2,l,q1,q3⟩
  .rintro ⟨k,q1,l,q2,q3⟩
   obtain ⟨y,h1,h2⟩:=this.2 ⟨k,l,q2,q1,q3⟩
   refine ⟨y,(Sq_iff _ _ h0 hj).2 ⟨?_,h1⟩,h2⟩
   rcases Nat.lt_or_ge y (nfaM pats).length with z | z
   .exact z
   .rw [st_out z] at h2
    exact absurd h2.symm hv
 intro f
 induction f with
 | zero =>
   intro i r hi h
   have:i=s.size:=by omega
   rw [<- this]; exact h
 | succ f ih =>
   intro i r hi h
   rw [lgN]
   have hSq:stepM (nfaM pats) (byteAt s i) (Sq (nfaM pats) s i)=Sq (nfaM pats) s (i+1):=rfl
   rw [hSq]
   have hno:∀ j,i<j->j<=s.size->Sq (nfaM pats) s (i+1)=[]->Sq (nfaM pats) s j=[]:=fun j h1 h2 h3=>by
    obtain ⟨d,rfl⟩:∃ d,j=i+1+d:=⟨j-(i+1),by omega⟩
    clear h1 h2
    induction d with
    | zero=>exact h3
    | succ d ihd =>
      show stepM (nfaM pats) _ (Sq (nfaM pats) s (i+1+d))=[]
      rw [ihd]
      unfold stepM
      show clM (nfaM pats) []=[]
      unfold clM
      rw [spM]; rfl
   have extend:∀ {r},LgSpec (Has pats s) i r->(∀ k,¬ Has pats s k (i+1))->LgSpec (Has pats s) (i+1) r:=fun {r} h hn=>by
    cases h with
    | no h =>
      exact .no fun k j h1 h2=>by
       rcases Nat.lt_or_ge i j with q | q
       .have:j=i+1:=by omega
        rw [this]; exact hn k
       .exact h k j h1 q
    | yes k j h1 h2 h3 h4 h5 =>
      exact .yes k j h1 (by omega) h3 (fun k' j' q1 q2=>by
       rcases Nat.lt_or_ge i j' with q | q
       .have:j'=i+1:=by omega
        rw [this]; exact hn k'
       .exact h4 k' j' q1 q) h5
   split
   .rename_i hemp
    have hall:∀ j,i<j->j<=s.size->∀ k,¬ Has pats s k j:=fun j h1 h2 k hk=>by
     obtain ⟨y,hy,_⟩:=(hends j h2 ((k+1:Nat):Int) (by omega)).2 ⟨k,rfl,hk⟩
     rw [hno j h1 h2 hemp] at hy
     cases hy
    cases h with
    | no h =>
      exact .no fun k j h1 h2=>by
       rcases Nat.lt_or_ge i j with q | q
       .exact hall j q h2 k
       .exact h k j h1 q
    | yes k j h1 h2 h3 h4 h5 =>
      exact .yes k j h1 (by omega) h3 (fun k' j' q1 q2=>by
       rcases Nat.lt_or_ge i j' with q | q
       .exact hall j' q q2 k'
       .exact h4 k' j' q1 q) h5
   .refine ih (i+1) _ (by omega) ?_
    obtain ⟨e1,e2⟩:=endM_spec (nfaM pats) (Sq (nfaM pats) s (i+1))
    have hiff:=hends (i+1) (by omega)
    split
    .rename_i hne
     obtain ⟨⟨x,hx,hxe⟩,hle⟩:=e2 hne
     obtain ⟨k,hk,hhas⟩:=(hiff _ hne).1 ⟨x,hx,hxe⟩
     have hkl:k<1000:=by
      obtain ⟨l,q,_⟩:=hhas
      rcases Nat.lt_or_ge k pats.length with u | u
      .omega
      .rw [List.getElem?_eq_none u] at q; cases q
     have w1:IntKind.wrap .i64 (endM (nfaM pats) (Sq (nfaM pats) s (i+1))-1)=((k:Nat):Int):=by rw [hk,wrap64 (by omega) (by omega)]; omega
     have w2:IntKind.wrap .i64 (((i:Nat):Int)+1)=((i+1:Nat):Int):=by rw [wrap64 (by omega) (by omega)]; omega
     rw [w1,w2]
     refine .yes k (i+1) (by omega) (Nat.le_refl _) hhas (fun k' j' q1 q2=>by omega) fun k' hk' hh=>?_
     obtain ⟨y,hy,hye⟩:=(hiff ((k'+1:Nat):Int) (by omega)).2 ⟨k',rfl,hh⟩
     have:=hle y hy (by rw [hye]; omega)
     rw [hye,hk] at this
     omega
    .rename_i hz
     have hz:endM (nfaM pats) (Sq (nfaM pats) s (i+1))=0:=by simpa using hz
     refine extend h fun k hk=>?_
     obtain ⟨y,hy,hye⟩:=(hiff ((k+1:Nat):Int) (by omega)).2 ⟨k,rfl,hk⟩
     have:=e1.1 hz y hy
     omega
theorem nfaL_spec {pats:List (List It)} (hg:∀ l∈pats,(treeD l).okT) (hp:pats.length<=1000) {s:ByteArray} (hs:s.size<=1000000):LgSpec (Has pats s) s.size (nfaL (nfaM pats) s) :=
 lgN_spec hg hp hs s.size 0 _ (by omega) (.no fun k j h1 h2=>by omega)
def SameS (a b:List Nat):Prop:=∀ x,x∈a↔x∈b
theorem SameS.nil {a b:List Nat} (h:SameS a b):a=[]↔b=[]:=by
 constructor
 .intro q
  subst q
  cases b with
  | nil=>rfl
  | cons x r=>exact absurd ((h x).2 (by simp)) (by simp)
 .intro q
  subst q
  cases a with
  | nil=>rfl
  | cons x r=>exact absurd ((h x).1 (by simp)) (by simp)
theorem SameS.trans {a b c:List Nat} (h:SameS a b) (g:SameS b c):SameS a c:=fun x=>(h x).trans (g x)
theorem move_same {S:List St} {c:Int} {a b:List Nat} (h:SameS a b):SameS (a.foldl (moveM S c) []) (b.foldl (moveM S c) []):=fun y=>by
 rw [moveF_mem,moveF_mem]
 constructor
 .rintro (q | ⟨⟨x,z1,z2⟩,z3⟩ | q)
  .cases q
  .exact .inr (.inl ⟨⟨x,(h x).1 z1,z2⟩,z3⟩)
  .cases q
 .rintro (q | ⟨⟨x,z1,z2⟩,z3⟩ | q)
  .cases q
  .exact .inr (.inl ⟨⟨x,(h x).2 z1,z2⟩,z3⟩)
  .cases q
theorem clM_same {S:List St} {a b:List Nat} (ha:Fit S.length a) (hb:Fit S.length b) (h:SameS a b):SameS (clM S a) (clM S b):=by
 obtain ⟨_,a1,a2,a3⟩:=clM_spec ha
 obtain ⟨_,b1,b2,b3⟩:=clM_spec hb
 intro z
 constructor
 .exact a3 (fun z=>z∈clM S b) (fun x hx=>b1 x ((h x).1 hx)) (fun x y hx=>b2 x y hx) z
 .exact b3 (fun z=>z∈clM S a) (fun x hx=>a1 x ((h x).2 hx)) (fun x y hx=>a2 x y hx) z
theorem stepM_same {S:List St} {c:Int} {a b:List Nat} (h:SameS a b):SameS (stepM S c a) (stepM S c b) :=
 clM_same (moveF_fit a [] (fit_nil _)) (moveF_fit b [] (fit_nil _)) (move_same h)
theorem endM_same {S:List St} {a b:List Nat} (h:SameS a b):endM S a=endM S b:=by
 obtain ⟨a1,a2⟩:=endM_spec S a
 obtain ⟨b1,b2⟩:=endM_spec S b
 by_cases z:endM S a=0
 .rw [z,b1.2 fun x hx=>a1.1 z x ((h x).2 hx)]
 .have z':endM S b≠0:=fun q=>z (a1.2 fun x hx=>b1.1 q x ((h x).1 hx))
  obtain ⟨⟨x,x1,x2⟩,x3⟩:=a2 z
  obtain ⟨⟨y,y1,y2⟩,y3⟩:=b2 z'
  have q1:=x3 y ((h y).2 y1) (by rw [y2]; exact z')
  have q2:=y3 x ((h x).1 x1) (by rw [x2]; exact z)
  rw [y2] at q1; rw [x2] at q2
  omega
theorem clM_nil {S:List St}:clM S []=[]:=by
 unfold clM
 simp [spM]
theorem step_nil {S:List St} {c:Int} {m:List Nat}:stepM S c m=[]↔m.foldl (moveM S c) []=[]:=by
 constructor
 .intro h
  cases hq:m.foldl (moveM S c) [] with
  | nil=>rfl
  | cons x r =>
    exfalso
    have:=(clM_spec (moveF_fit (c:=c) m [] (fit_nil S.length))).2.1 x (by rw [hq]; simp)
    have h:clM S (m.foldl (moveM S c) [])=[]:=h
    rw [h] at this
    cases this
 .intro h
  unfold stepM
  rw [h,clM_nil]
def dLg (g:Nat->Int) (L:Nat) (s:ByteArray):Nat->Nat->Nat->Int × Int × Bool->Int × Int × Bool
 | 0,_,_,st=>st
 | f+1,i,p,st =>
   if g (p*257+(byteAt s i).toNat)<0 then st else if (L:Int)<=g (p*257+(byteAt s i).toNat) then st else
    dLg g L s f (i+1) (g (p*257+(byteAt s i).toNat)).toNat (if g ((g (p*257+(byteAt s i).toNat)).toNat*257+256)≠0 then (IntKind.wrap .i64 (g ((g (p*257+(byteAt s i).toNat)).toNat*257+256)-1),IntKind.wrap .i64 ((i:Int)+1),true) else st)
def dLgR (g:Nat->Int) (L:Nat) (s:ByteArray):Int × Int × Bool:=if L=0 then (0,0,false) else dLg g L s s.size 0 0 (0,0,false)
structure RowsOk (S:List St) (keys:List (List Nat)) (g:Nat->Int):Prop where
 pos:0<keys.length
 beg:∀ K,keys[0]? = some K->SameS K (begM S)
 fin:∀ k K,keys[k]? = some K->g (k*257+256)=endM S K
 non:∀ k K (c:Nat),keys[k]? = some K->c<256->stepM S (c:Int) K=[]->g (k*257+c)<0
 nxt:∀ k K (c:Nat),keys[k]? = some K->c<256->stepM S (c:Int) K≠[]->∃ k' K',g (k*257+c)=((k':Nat):Int)/\keys[k']? = some K'/\SameS K' (stepM S (c:Int) K)
theorem dLg_nfa {S:List St} {keys:List (List Nat)} {g:Nat->Int} (h:RowsOk S keys g) (s:ByteArray):∀ (f i p:Nat) (K m:List Nat) (r:Int × Int × Bool),keys[p]? = some K->SameS K m->dLg g keys.length s f i p r=lgN S s f i m r
 | 0,i,p,K,m,r,hk,hs=>rfl
 | f+1,i,p,K,m,r,hk,hs=>by
   have hb:=byteAt_in s i
   have hc:(((byteAt s i).toNat:Nat):Int)=byteAt s i:=by omega
   have hlt:(byteAt s i).toNat<256:=by omega
   have hst:SameS (stepM S (byteAt s i) K) (stepM S (byteAt s i) m):=stepM_same hs
   rw [dLg,lgN]
   by_cases hz:stepM S (byteAt s i) K=[]
   .have:=h.non p K _ hk hlt (by rw [hc]; exact hz)
    rw [if_pos this,if_pos (hst.nil.1 hz)]
   .obtain ⟨k',K',q1,q2,q3⟩:=h.nxt p K _ hk hlt (by rw [hc]; exact hz)
    rw [hc] at q3
    have hkl:k'<keys.length:=by
     rcases Nat.lt_or_ge k' keys.length with u | u
     .exact u
     .rw [List.getElem?_eq_none u] at q2; cases q2
    have hn:stepM S (byteAt s i) m≠[]:=fun z=>hz (hst.nil.2 z)
    have e1:(((k':Nat):Int)).toNat=k':=by omega
    rw [q1,if_neg (by omega),if_neg (by omega),if_neg hn,e1,h.fin k' K' q2,endM_same (q3.trans hst)]
    exact dLg_nfa h s f (i+1) k' K' _ _ q2 (q3.trans hst)
theorem dLgR_nfa {S:List St} {keys:List (List Nat)} {g:Nat->Int} (h:RowsOk S keys g) (s:ByteArray):dLgR g keys.length s=nfaL S s:=by
 have hp:=h.pos
 unfold dLgR nfaL
 rw [if_neg (by omega)]
 have h0:keys[0]? = some keys[0]:=by simp [hp]
 exact dLg_nfa h s _ _ _ _ _ _ h0 (h.beg _ h0)
def bitB (x:Int) (k:Nat):Bool:=decide (andI .u8 (Int.fdiv x (2 ^ (min k (IntKind.bits .u8)))) 1=1)
def setB (x:Int) (k:Nat):Int:=orI .u8 x (IntKind.wrap .u8 (1*(2 ^ (min k (IntKind.bits .u8)))))
theorem bit_zero:∀ j:Fin 8,bitB 0 j.1=false:=by decide +kernel
theorem bit_set:∀ (k j:Fin 8) (x:Fin 256),0<=setB (x.1:Nat) k.1/\setB (x.1:Nat) k.1<=255/\bitB (setB (x.1:Nat) k.1) j.1=(bitB (x.1:Nat) j.1||j.1 == k.1):=by decide +kernel
theorem bit_sum:∀ x:Fin 256,((x.1:Nat):Int)=(List.range 8).foldl (fun a j=>a+if bitB (x.1:Nat) j then 2 ^ j else 0) 0:=by decide +kernel
theorem bit_ext {x y:Int} (hx:0<=x/\x<=255) (hy:0<=y/\y<=255) (h:∀ j,j<8->bitB x j=bitB y j):x=y:=by
 have h1:=bit_sum ⟨x.toNat,by omega⟩
 have h2:=bit_sum ⟨y.toNat,by omega⟩
 have e1:((x.toNat:Nat):Int)=x:=by omega
 have e2:((y.toNat:Nat):Int)=y:=by omega
 simp only [e1,e2] at h1 h2
 rw [h1,h2]
 have:(List.range 8)=[0,1,2,3,4,5,6,7]:=rfl
 rw [this]
 simp only [List.foldl,h 0 (by omega),h 1 (by omega),h 2 (by omega),h 3 (by omega),h 4 (by omega),h 5 (by omega),h 6 (by omega),h 7 (by omega)]
structure Bits (N:Nat) (bs:List Int) (m:List Nat):Prop where
 len:bs.length=N/8+1
 rng:∀ b∈bs,0<=b/\b<=255
 is:∀ (i j:Nat) (b:Int),bs[i]? = some b->j<8->(bitB b j=true↔i*8+j∈m)
theorem Bits.nil (N:Nat):Bits N (List.replicate (N/8+1) 0) []:=⟨by simp,fun b hb=>by rw [List.eq_of_mem_replicate hb]; omega,fun i j b hb hj=>by
 rw [List.getElem?_replicate] at hb
 split at hb
 .cases hb
  have:=bit_zero ⟨j,hj⟩
  simp only at this
  rw [this]
  simp
 .cases hb⟩
theorem Bits.add {N:Nat} {bs:List Int} {m:List Nat} (h:Bits N bs m) {x:Nat} (hx:x<N) {b:Int} (hb:bs[x/8]? = some b):Bits N (bs.set (x/8) (setB b (x%8))) (m++[x]):=by
 have hl:x/8<bs.length:=by rw [h.len]; omega
 have hbr:=h.rng b (List.mem_of_getElem? hb)
 have key:∀ j,j<8->0<=setB b (x%8)/\setB b (x%8)<=255/\bitB (setB b (x%8)) j=(bitB b j||j == x%8):=fun j hj=>by
  have:=bit_set ⟨x%8,by omega⟩ ⟨j,hj⟩ ⟨b.toNat,by omega⟩
  have e:((b.toNat:Nat):Int)=b:=by omega
  simp only [e] at this
  exact this
 refine ⟨by rw [List.length_set]; exact h.len,fun c hc=>?_,fun i j c hc hj=>?_⟩
 .rcases List.mem_or_eq_of_mem_set hc with z | z
  .exact h.rng c z
  .rw [z]; exact ⟨(key 0 (by omega)).1,(key 0 (by omega)).2.1⟩
 .by_cases hi:i=x/8
  .subst hi
   rw [List.getElem?_set_self hl] at hc
   cases hc
   rw [(key j hj).2.2,Bool.or_eq_true,h.is _ j b hb hj,List.mem_append,List.mem_singleton,beq_iff_eq]
   constructor
   .rintro (z | z)
    .exact .inl z
    .exact .inr (by omega)
   .rintro (z | z)
    .exact .inl z
    .exact .inr (by omega)
  .rw [List.getElem?_set_ne (fun z=>hi z.symm)] at hc
   rw [h.is i j c hc hj,List.mem_append,List.mem_singleton]
   constructor
   .exact .inl
   .rintro (z | z)
    .exact z
    .exfalso; exact hi (by omega)
theorem Bits.ext {N:Nat} {bs cs:List Int} {m n:List Nat} (h:Bits N bs m) (g:Bits N cs n) (hs:SameS m n):bs=cs:=by
 apply List.ext_getElem?
 intro i
 by_cases hi:i<bs.length
 .have hc:i<cs.length:=by rw [g.len,<- h.len]; exact hi
  rw [List.getElem?_eq_getElem hi,List.getElem?_eq_getElem hc]
  congr 1
  refine bit_ext (h.rng _ (List.getElem_mem hi)) (g.rng _ (List.getElem_mem hc)) fun j hj=>?_
  have h1:=h.is i j _ (List.getElem?_eq_getElem hi) hj
  have g1:=g.is i j _ (List.getElem?_eq_getElem hc) hj
  rw [Bool.eq_iff_iff,h1,g1]
  exact hs _
 .rw [List.getElem?_eq_none (by omega),List.getElem?_eq_none (by rw [g.len,<- h.len]; omega)]
theorem Bits.same {N:Nat} {bs:List Int} {m n:List Nat} (h:Bits N bs m) (g:Bits N bs n) (hm:∀ x∈m,x<N) (hn:∀ x∈n,x<N):SameS m n:=fun x=>by
 by_cases hx:x<N
 .have hi:x/8<bs.length:=by rw [h.len]; omega
  have e:x/8*8+x%8=x:=by omega
  have h1:=h.is (x/8) (x%8) _ (List.getElem?_eq_getElem hi) (by omega)
  have g1:=g.is (x/8) (x%8) _ (List.getElem?_eq_getElem hi) (by omega)
  rw [e] at h1 g1
  exact h1.symm.trans g1
 .exact ⟨fun z=>absurd (hm x z) hx,fun z=>absurd (hn x z) hx⟩
def membB:List Int->Nat->List Nat
 | [],_=>[]
 | b :: r,i=>((List.range 8).filter fun j=>bitB b j).map (fun j=>i*8+j)++membB r (i+1)
theorem memb_mem:∀ (bs:List Int) (i x:Nat),x∈membB bs i↔∃ k b,bs[k]? = some b/\x/8=i+k/\bitB b (x%8)=true
 | [],i,x=>by simp [membB]
 | b :: r,i,x=>by
   rw [membB,List.mem_append,memb_mem r (i+1) x,List.mem_map]
   constructor
   .rintro (⟨j,z1,z2⟩ | ⟨k,c,z1,z2,z3⟩)
    .have z1:=List.mem_filter.1 z1
     have hj:j<8:=List.mem_range.1 z1.1
     refine ⟨0,b,rfl,by omega,?_⟩
     have:x%8=j:=by omega
     rw [this]; exact z1.2
    .exact ⟨k+1,c,by simpa using z1,by omega,z3⟩
   .rintro ⟨k,c,z1,z2,z3⟩
    match k,z1 with
    | 0,z1 =>
      have:b=c:=by simpa using z1
      subst this
      exact .inl ⟨x%8,List.mem_filter.2 ⟨List.mem_range.2 (by omega),z3⟩,by omega⟩
    | k+1,z1=>exact .inr ⟨k,c,by simpa using z1,by omega,z3⟩
theorem Bits.memb {N:Nat} {bs:List Int} {m:List Nat} (h:Bits N bs m) (hm:∀ x∈m,x<N):SameS (membB bs 0) m:=fun x=>by
 rw [memb_mem]
 constructor
 .rintro ⟨k,b,z1,z2,z3⟩
  have:=(h.is k (x%8) b z1 (by omega)).1 z3
  have e:k*8+x%8=x:=by omega
  rwa [e] at this
 .intro z
  have hx:=hm x z
  have hi:x/8<bs.length:=by rw [h.len]; omega
  have e:x/8*8+x%8=x:=by omega
  exact ⟨x/8,bs[x/8],List.getElem?_eq_getElem hi,by omega,(h.is _ _ _ (List.getElem?_eq_getElem hi) (by omega)).2 (by rw [e]; exact z)⟩
end Go.Ew
set_option maxRecDepth 100000
namespace Go.Proofs.Ytlgpleiobieniaa
open Go.Ev Go.Ew
namespace Va
def W16 (P:Program):WE:=⟨env P,tupT,[],mkTab [(0,[.tmp 0 .slice,.tmp 1 .str,.tmp 4 (.int .i64),.tmp 5 (.int .i64),.tmp 6 .bool,.tmp 7 (.int .i64),.tmp 14 (.int .i64),.tmp 15 (.int .i64)])],16⟩
def vc16_L2 (y1:OA) (y2 y3:Nat) (y4:ByteArray) (y5:KH) (y6:PQ):Prop :=
 (∃ (k:(Nat->OA->Nat->Nat->ByteArray->Int->Int->Bool->Int->Int->Int->KH->Prop)),(∃ (v:Nat),k v y1 y2 y3 y4 0 0 false 0 (((ByteArray.size y4):Nat):Int) 0 y5)/\∀ (n:Nat) (f:(OA)) (d o:Nat) (e:ByteArray) (g h:Int) (i:Bool) (l j a:Int) (c:KH),k n f d o e g h i l j a c->(decide (a<j)=true->True/\((0:Int)<=a/\a<(((ByteArray.size e):Nat):Int))/\((0:Int)<=l/\l<(d:Int))/\∃ (p q:Nat),f=some ⟨p,q,none⟩/\(none:(Option Nat))=none/\((0:Int)<=(byteAt e (Int.toNat a))/\((byteAt e (Int.toNat a)):Int)<(256:Int))/\(none:(Option Nat))=none/\∃ (b:Int),ld c ⟨p,((q+((Int.toNat l)*257))+0)+((Int.toNat (byteAt e (Int.toNat a)))*1),none⟩ [(.int .i64 b)]/\(decide (b<0)=true->y6 (.tuple #[.int .i64 g,.int .i64 h,.bool i]) c)/\(decide (b<0)=false->(decide ((d:Int)<=b)=true->y6 (.tuple #[.int .i64 g,.int .i64 h,.bool i]) c)/\(decide ((d:Int)<=b)=false->((0:Int)<=b/\b<(d:Int))/\∃ (r s:Nat),f=some ⟨r,s,none⟩/\(none:(Option Nat))=none/\∃ (m:Int),ld c ⟨r,(s+((Int.toNat b)*257))+256,none⟩ [(.int .i64 m)]/\(decide (m≠0)=true->∃ (t:Nat),(t:Nat)<n/\k t f d o e (IntKind.wrap .i64 (m-1)) (IntKind.wrap .i64 (a+1)) true b j (IntKind.wrap .i64 (a+1)) c)/\(decide (m≠0)=false->∃ (u:Nat),(u:Nat)<n/\k u f d o e g h i b j (IntKind.wrap .i64 (a+1)) c))))/\(decide (a<j)=false->y6 (.tuple #[.int .i64 g,.int .i64 h,.bool i]) c))
def vc16 (p0:OA) (p0n p0c:Nat) (p1:ByteArray) (H:KH) (Q:PQ):Prop :=
 ((decide ((p0n:Int)=0)=true->Q (.tuple #[.int .i64 0,.int .i64 0,.bool false]) H)/\(decide ((p0n:Int)=0)=false->vc16_L2 p0 p0n p0c p1 H Q))
theorem fn16 (ok:EnvOk (env Try.prog)) {p0:OA} {p0n p0c:Nat} {p1:ByteArray} {H:KH} {Q:PQ} (h:vc16 p0 p0n p0c p1 H Q):Does (env Try.prog) 16 [.slice p0 p0n p0c,.string p1] H Q :=
 wFun_sound (W:=W16 Try.prog) ok.tt (blt_lt (by kernel_rfl)) (ff_of ok (by kernel_rfl) Try.func16) (Eq.mpr (by kernel_rfl) h)
def W41 (P:Program):WE:=⟨env P,tupT,[4],mkTab [(0,[.tmp 2 .ptr,.tmp 5 .slice,.tmp 6 (.int .i64),.tmp 7 (.int .i64)])],41⟩
def vc41_L2 (y1:Nat) (y2:OA) (y3 y4:Nat) (y5:KH) (y6:PQ):Prop :=
 (∃ (h:(Nat->Nat->Nat->OA->Nat->Nat->Int->Int->KH->Prop)),(∃ (v:Nat),(none:(Option Nat))=none/\h v y1 0 y2 y3 y4 (y3:Int) 0 (KH.new y5 y1 (mkEnt (List.replicate 256 (Value.bool false)) 0)))/\∀ (l a b:Nat) (i:(OA)) (j m:Nat) (g d:Int) (c:KH),h l a b i j m g d c->(decide (d<g)=true->((0:Int)<=d/\d<(j:Int))/\∃ (n o:Nat),i=some ⟨n,o,none⟩/\∃ (e f w:Int) (x:(OA)) (y z:Nat) (aa:Int),ld c ⟨n,o+((Int.toNat d)*5),none⟩ [.int .u8 e,.int .u8 f,.int .i64 w,.slice x y z,.int .i64 aa]/\((0:Int)<=e/\e<(256:Int))/\(none:(Option Nat))=none/\(∃ (p:(List Value)),((List.length p):Nat)=(List.length [(Value.bool true)])/\ld c ⟨a,b+((Int.toNat e)*1),none⟩ p)/\KH.may c a/\(decide (f<255)=true->((0:Int)<=(IntKind.wrap .u8 (f+1))/\((IntKind.wrap .u8 (f+1)):Int)<(256:Int))/\(none:(Option Nat))=none/\(∃ (q:(List Value)),((List.length q):Nat)=(List.length [(Value.bool true)])/\ld (KH.put c ⟨a,b+((Int.toNat e)*1),none⟩ [(.bool true)]) ⟨a,b+((Int.toNat (IntKind.wrap .u8 (f+1)))*1),none⟩ q)/\KH.may (KH.put c ⟨a,b+((Int.toNat e)*1),none⟩ [(.bool true)]) a/\∃ (r:Nat),(r:Nat)<l/\(none:(Option Nat))=none/\h r a b i j m g (IntKind.wrap .i64 (d+1)) (KH.put (KH.put c ⟨a,b+((Int.toNat e)*1),none⟩ [(.bool true)]) ⟨a,b+((Int.toNat (IntKind.wrap .u8 (f+1)))*1),none⟩ [(.bool true)]))/\(decide (f<255)=false->∃ (s:Nat),(s:Nat)<l/\(none:(Option Nat))=none/\h s a b i j m g (IntKind.wrap .i64 (d+1)) (KH.put c ⟨a,b+((Int.toNat e)*1),none⟩ [(.bool true)])))/\(decide (d<g)=false->∃ (k:(Nat->Bool)),ld c ⟨a,b,none⟩ ((boolsR 256 k)++[])/\(∃ (t:(List Value)),((List.length t):Nat)=(List.length (Array.toList (List.toArray (boolsR 256 k))))/\ld c ⟨a,b,none⟩ t)/\KH.may c a/\∃ (u:(Nat->Bool)),ld (KH.put c ⟨a,b,none⟩ (Array.toList (List.toArray (boolsR 256 k)))) ⟨a,b,none⟩ ((boolsR 256 u)++[])/\y6 (.agg (List.toArray (boolsR 256 u))) (KH.put c ⟨a,b,none⟩ (Array.toList (List.toArray (boolsR 256 k))))))
def vc41 (p0:OA) (p0n p0c:Nat) (H:KH) (Q:PQ):Prop :=
 (∀ (a:Nat),((H a):(Option (Ent)))=none->vc41_L2 a p0 p0n p0c H Q)
theorem fn41 (ok:EnvOk (env Try.prog)) {p0:OA} {p0n p0c:Nat} {H:KH} {Q:PQ} (h:vc41 p0 p0n p0c H Q):Does (env Try.prog) 41 [.slice p0 p0n p0c] H Q :=
 wFun_sound (W:=W41 Try.prog) ok.tt (blt_lt (by kernel_rfl)) (ff_of ok (by kernel_rfl) Try.func41) (Eq.mpr (by kernel_rfl) h)
def W43 (P:Program):WE:=⟨env P,tupT,[],mkTab [],43⟩
def vc43 (p0:Int) (H:KH) (Q:PQ):Prop :=
 ((8:Int)≠0/\((0:Int)<=(IntKind.wrap .i64 ((IntKind.wrap .i64 (Int.tdiv p0 8))+1))/\((IntKind.wrap .i64 ((IntKind.wrap .i64 (Int.tdiv p0 8))+1)):Int)<=(IntKind.wrap .i64 ((IntKind.wrap .i64 (Int.tdiv p0 8))+1))/\((IntKind.wrap .i64 ((IntKind.wrap .i64 (Int.tdiv p0 8))+1)):Int)<=1000000)/\∀ (a:Nat),((H a):(Option (Ent)))=none->∀ (b:Nat),(((KH.new H a (mkEnt (lrep [(.int .u8 0)] (Int.toNat (IntKind.wrap .i64 ((IntKind.wrap .i64 (Int.tdiv p0 8))+1)))) 0)) b):(Option (Ent)))=none->Q (.pointer (some ⟨b,0,none⟩)) (KH.new (KH.new H a (mkEnt (lrep [(.int .u8 0)] (Int.toNat (IntKind.wrap .i64 ((IntKind.wrap .i64 (Int.tdiv p0 8))+1)))) 0)) b (mkEnt (Array.toList #[Value.int .i64 p0,.slice (some ⟨a,0,none⟩) (Int.toNat (IntKind.wrap .i64 ((IntKind.wrap .i64 (Int.tdiv p0 8))+1))) (Int.toNat (IntKind.wrap .i64 ((IntKind.wrap .i64 (Int.tdiv p0 8))+1))),.slice none 0 0]) 0)))
theorem fn43 (ok:EnvOk (env Try.prog)) {p0:Int} {H:KH} {Q:PQ} (h:vc43 p0 H Q):Does (env Try.prog) 43 [.int .i64 p0] H Q :=
 wFun_sound (W:=W43 Try.prog) ok.tt (blt_lt (by kernel_rfl)) (ff_of ok (by kernel_rfl) Try.func43) (Eq.mpr (by kernel_rfl) h)
def W44 (P:Program):WE:=⟨env P,tupT,[],mkTab [],44⟩
def vc44 (p0b p0o:Nat) (p1:Int) (H:KH) (Q:PQ):Prop :=
 ((decide (p1<0)=true->Q (.tuple #[]) H)/\(decide (p1<0)=false->(none:(Option Nat))=none/\∃ (g:Int),ld H ⟨p0b,p0o+0,none⟩ [(.int .i64 g)]/\(decide (g<=p1)=true->Q (.tuple #[]) H)/\(decide (g<=p1)=false->Does (env Try.prog) 61 [.pointer (some ⟨p0b,p0o,none⟩),.int .i64 p1] H fun y a=>∃ (h:Bool),y=(.bool h)/\(h=true->Q (.tuple #[]) a)/\(h=false->True/\(none:(Option Nat))=none/\∃ (i:(OA)) (j x:Nat),ld a ⟨p0b,p0o+1,none⟩ [(.slice i j x)]/\(8:Int)≠0/\((0:Int)<=(IntKind.wrap .i64 (Int.tdiv p1 8))/\((IntKind.wrap .i64 (Int.tdiv p1 8)):Int)<(j:Int))/\∃ (n o:Nat),i=some ⟨n,o,none⟩/\∃ (c:Int),ld a ⟨n,o+((Int.toNat (IntKind.wrap .i64 (Int.tdiv p1 8)))*1),none⟩ [(.int .u8 c)]/\(8:Int)≠0/\(0:Int)<=(Int.tmod p1 8)/\((0:Int)<=(IntKind.wrap .i64 (Int.tdiv p1 8))/\((IntKind.wrap .i64 (Int.tdiv p1 8)):Int)<(j:Int))/\∃ (b d:Nat),i=some ⟨b,d,none⟩/\(∃ (p:(List Value)),((List.length p):Nat)=(List.length [(Value.int .u8 (orI .u8 c (IntKind.wrap .u8 (1*(2 ^ (min (Int.toNat (Int.tmod p1 8)) (IntKind.bits .u8)))))))])/\ld a ⟨b,d+((Int.toNat (IntKind.wrap .i64 (Int.tdiv p1 8)))*1),none⟩ p)/\KH.may a b/\True/\(none:(Option Nat))=none/\∃ (q:(OA)) (r s:Nat),ld (KH.put a ⟨b,d+((Int.toNat (IntKind.wrap .i64 (Int.tdiv p1 8)))*1),none⟩ [(.int .u8 (orI .u8 c (IntKind.wrap .u8 (1*(2 ^ (min (Int.toNat (Int.tmod p1 8)) (IntKind.bits .u8)))))))]) ⟨p0b,p0o+2,none⟩ [(.slice q r s)]/\∀ (e:Nat),(((KH.put a ⟨b,d+((Int.toNat (IntKind.wrap .i64 (Int.tdiv p1 8)))*1),none⟩ [(.int .u8 (orI .u8 c (IntKind.wrap .u8 (1*(2 ^ (min (Int.toNat (Int.tmod p1 8)) (IntKind.bits .u8)))))))]) e):(Option (Ent)))=none->∀ (t:Nat),(((KH.new (KH.put a ⟨b,d+((Int.toNat (IntKind.wrap .i64 (Int.tdiv p1 8)))*1),none⟩ [(.int .u8 (orI .u8 c (IntKind.wrap .u8 (1*(2 ^ (min (Int.toNat (Int.tmod p1 8)) (IntKind.bits .u8)))))))]) e (mkEnt [(.int .i64 p1)] 0)) t):(Option (Ent)))=none->∃ (u:Nat) (v:(List Value)),((knew (KH.new (KH.put a ⟨b,d+((Int.toNat (IntKind.wrap .i64 (Int.tdiv p1 8)))*1),none⟩ [(.int .u8 (orI .u8 c (IntKind.wrap .u8 (1*(2 ^ (min (Int.toNat (Int.tmod p1 8)) (IntKind.bits .u8)))))))]) e (mkEnt [(.int .i64 p1)] 0)) ⟨1,8,false,5,0,0,[],[(.int .i64 0)]⟩ (.slice (some ⟨e,0,none⟩) 1 1)):(Option (Nat × (List Value))))=(some (u,v))/\∃ (k:(OA)) (l m:Nat) (f:KH),((kappend (KH.new (KH.put a ⟨b,d+((Int.toNat (IntKind.wrap .i64 (Int.tdiv p1 8)))*1),none⟩ [(.int .u8 (orI .u8 c (IntKind.wrap .u8 (1*(2 ^ (min (Int.toNat (Int.tmod p1 8)) (IntKind.bits .u8)))))))]) e (mkEnt [(.int .i64 p1)] 0)) t ⟨1,8,false,5,0,0,[],[(.int .i64 0)]⟩ q r s u v):(Option (Value × KH)))=(some (.slice k l m,f))/\(none:(Option Nat))=none/\(∃ (w:(List Value)),((List.length w):Nat)=(List.length [(Value.slice k l m)])/\ld f ⟨p0b,p0o+2,none⟩ w)/\KH.may f p0b/\Q (.tuple #[]) (KH.put f ⟨p0b,p0o+2,none⟩ [(.slice k l m)])))))
theorem fn44 (ok:EnvOk (env Try.prog)) {p0b p0o:Nat} {p1:Int} {H:KH} {Q:PQ} (h:vc44 p0b p0o p1 H Q):Does (env Try.prog) 44 [.pointer (some ⟨p0b,p0o,none⟩),.int .i64 p1] H Q :=
 wFun_sound (W:=W44 Try.prog) ok.tt (blt_lt (by kernel_rfl)) (ff_of ok (by kernel_rfl) Try.func44) (Eq.mpr (by kernel_rfl) h)
def W46 (P:Program):WE:=⟨env P,tupT,[1],mkTab [(2,[.ref 1 1 0,.box 1 [.string ⟨#[]⟩],.tmp 2 .slice,.tmp 3 (.int .i64),.tmp 7 (.int .i64),.tmp 8 (.int .i64),.tmp 11 (.int .i64)]),(0,[.ref 1 1 0,.box 1 [.string ⟨#[]⟩],.tmp 2 .slice,.tmp 7 (.int .i64),.tmp 8 (.int .i64)])],46⟩
def vc46_L1 (y1:ByteArray) (y2:OA) (y3 y4:Nat) (y5 y6:Int) (y7:KH) (y8:Nat) (y9:(Nat->(ByteArray->(OA->(Nat->(Nat->(Int->(Int->(KH->Prop))))))))):Prop :=
 (∃ (f:(Nat->ByteArray->OA->Nat->Nat->Int->Int->Int->Int->KH->Prop)),(∃ (w:Nat),f w y1 y2 y3 y4 y5 y6 y5 0 y7)/\∀ (l:Nat) (c:ByteArray) (g:(OA)) (h i:Nat) (b j k a:Int) (d:KH),f l c g h i b j k a d->(decide (a<8)=true->((0:Int)<=b/\b<(((ByteArray.size c):Nat):Int))/\(0:Int)<=a/\(((decide (((andI .u8 (Int.fdiv (byteAt c (Int.toNat b)) (2 ^ (min (Int.toNat a) (IntKind.bits .u8)))) 1):Int)=1)):Bool)=true->∀ (e:Nat),((d e):(Option (Ent)))=none->∀ (m:Nat),(((KH.new d e (mkEnt [(.int .i64 (IntKind.wrap .i64 ((IntKind.wrap .i64 (b*8))+a)))] 0)) m):(Option (Ent)))=none->∃ (n:Nat) (o:(List Value)),((knew (KH.new d e (mkEnt [(.int .i64 (IntKind.wrap .i64 ((IntKind.wrap .i64 (b*8))+a)))] 0)) ⟨1,8,false,5,0,0,[],[(.int .i64 0)]⟩ (.slice (some ⟨e,0,none⟩) 1 1)):(Option (Nat × (List Value))))=(some (n,o))/\∃ (p:(OA)) (q r:Nat) (s:KH),((kappend (KH.new d e (mkEnt [(.int .i64 (IntKind.wrap .i64 ((IntKind.wrap .i64 (b*8))+a)))] 0)) m ⟨1,8,false,5,0,0,[],[(.int .i64 0)]⟩ g h i n o):(Option (Value × KH)))=(some (.slice p q r,s))/\∃ (t:Nat),(t:Nat)<l/\f t c p q r b j k (IntKind.wrap .i64 (a+1)) s)/\(((decide (((andI .u8 (Int.fdiv (byteAt c (Int.toNat b)) (2 ^ (min (Int.toNat a) (IntKind.bits .u8)))) 1):Int)=1)):Bool)=false->∃ (u:Nat),(u:Nat)<l/\f u c g h i b j k (IntKind.wrap .i64 (a+1)) d))/\(decide (a<8)=false->∃ (v:Nat),(v:Nat)<y8/\y9 v c g h i j (IntKind.wrap .i64 (k+1)) d))
def vc46_L2 (y1:ByteArray) (y2:KH) (y3:PQ):Prop :=
 (∃ (c:(Nat->ByteArray->OA->Nat->Nat->Int->Int->KH->Prop)),(∃ (j:Nat),c j y1 none 0 0 (((ByteArray.size y1):Nat):Int) 0 y2)/\∀ (h:Nat) (i:ByteArray) (d:(OA)) (e f:Nat) (a b:Int) (g:KH),c h i d e f a b g->(decide (b<a)=true->vc46_L1 i d e f b a g h c)/\(decide (b<a)=false->y3 (.slice d e f) g))
def vc46 (p0_0:ByteArray) (H:KH) (Q:PQ):Prop :=
 (vc46_L2 p0_0 H Q)
theorem fn46 (ok:EnvOk (env Try.prog)) {p0_0:ByteArray} {H:KH} {Q:PQ} (h:vc46 p0_0 H Q):Does (env Try.prog) 46 [.agg #[.string p0_0]] H Q :=
 wFun_sound (W:=W46 Try.prog) ok.tt (blt_lt (by kernel_rfl)) (ff_of ok (by kernel_rfl) Try.func46) (Eq.mpr (by kernel_rfl) h)
def W47 (P:Program):WE:=⟨env P,tupT,[],mkTab [(0,[.tmp 0 .ptr,.tmp 5 (.int .i64),.tmp 9 .slice,.tmp 10 (.int .i64),.tmp 11 (.int .i64)])],47⟩
def vc47_L1 (y1 y2:Nat) (y3:OA) (y4 y5:Nat) (y6:KH) (y7:PQ):Prop :=
 (∃ (f:(Nat->Nat->Nat->Int->OA->Nat->Nat->Int->Int->KH->Prop)),(∃ (x:Nat),(none:(Option Nat))=none/\f x y1 y2 0 y3 y4 y5 (y4:Int) 0 y6)/\∀ (k g h:Nat) (c:Int) (i:(OA)) (j l:Nat) (d a:Int) (b:KH),f k g h c i j l d a b->(decide (a<d)=true->((0:Int)<=a/\a<(j:Int))/\∃ (n o:Nat),i=some ⟨n,o,none⟩/\∃ (m:Int),ld b ⟨n,o+((Int.toNat a)*1),none⟩ [(.int .i64 m)]/\(none:(Option Nat))=none/\∃ (p:(OA)) (q y:Nat),ld b ⟨g,h+0,none⟩ [(.slice p q y)]/\((0:Int)<=m/\m<(q:Int))/\∃ (r s:Nat),p=some ⟨r,s,none⟩/\(none:(Option Nat))=none/\∃ (e:Int),ld b ⟨r,(s+((Int.toNat m)*5))+4,none⟩ [(.int .i64 e)]/\(decide (e≠0)=true->(decide (c=0)=true->∃ (t:Nat),(t:Nat)<k/\(none:(Option Nat))=none/\f t g h e i j l d (IntKind.wrap .i64 (a+1)) b)/\(decide (c=0)=false->(decide (e<c)=true->∃ (u:Nat),(u:Nat)<k/\(none:(Option Nat))=none/\f u g h e i j l d (IntKind.wrap .i64 (a+1)) b)/\(decide (e<c)=false->∃ (v:Nat),(v:Nat)<k/\(none:(Option Nat))=none/\f v g h c i j l d (IntKind.wrap .i64 (a+1)) b)))/\(decide (e≠0)=false->∃ (w:Nat),(w:Nat)<k/\(none:(Option Nat))=none/\f w g h c i j l d (IntKind.wrap .i64 (a+1)) b))/\(decide (a<d)=false->y7 (.int .i64 c) b))
def vc47 (p0b p0o:Nat) (p1:OA) (p1n p1c:Nat) (H:KH) (Q:PQ):Prop :=
 (vc47_L1 p0b p0o p1 p1n p1c H Q)
theorem fn47 (ok:EnvOk (env Try.prog)) {p0b p0o:Nat} {p1:OA} {p1n p1c:Nat} {H:KH} {Q:PQ} (h:vc47 p0b p0o p1 p1n p1c H Q):Does (env Try.prog) 47 [.pointer (some ⟨p0b,p0o,none⟩),.slice p1 p1n p1c] H Q :=
 wFun_sound (W:=W47 Try.prog) ok.tt (blt_lt (by kernel_rfl)) (ff_of ok (by kernel_rfl) Try.func47) (Eq.mpr (by kernel_rfl) h)
def W48 (P:Program):WE:=⟨env P,tupT,[10],mkTab [(0,[.tmp 0 .ptr,.tmp 2 (.int .u8),.tmp 7 .ptr,.tmp 17 .slice,.tmp 18 (.int .i64),.tmp 19 (.int .i64)])],48⟩
def vc48_L1 (y1 y2:Nat) (y3:Int) (y4 y5:Nat) (y6:OA) (y7 y8:Nat) (y9:KH) (y10:PQ):Prop :=
 (∃ (g:(Nat->Nat->Nat->Int->Nat->Nat->OA->Nat->Nat->Int->Int->KH->Prop)),(∃ (aa:Nat),(none:(Option Nat))=none/\(none:(Option Nat))=none/\g aa y1 y2 y3 y4 y5 y6 y7 y8 (y7:Int) 0 y9)/\∀ (l h i:Nat) (b:Int) (d e:Nat) (j:(OA)) (k m:Nat) (f a:Int) (c:KH),g l h i b d e j k m f a c->(decide (a<f)=true->((0:Int)<=a/\a<(k:Int))/\∃ (q r:Nat),j=some ⟨q,r,none⟩/\∃ (n:Int),ld c ⟨q,r+((Int.toNat a)*1),none⟩ [(.int .i64 n)]/\(none:(Option Nat))=none/\∃ (s:(OA)) (t ab:Nat),ld c ⟨h,i+0,none⟩ [(.slice s t ab)]/\((0:Int)<=n/\n<(t:Int))/\∃ (u v:Nat),s=some ⟨u,v,none⟩/\∃ (o p w:Int) (ac:(OA)) (ad ae:Nat) (af:Int),ld c ⟨u,v+((Int.toNat n)*5),none⟩ [.int .u8 o,.int .u8 p,.int .i64 w,.slice ac ad ae,.int .i64 af]/\(decide (o<=b)=true->(decide (b<=p)=true->Does (env Try.prog) 44 [.pointer (some ⟨d,e,none⟩),.int .i64 w] c fun ag ah=>ag=(.tuple #[])/\∃ (x:Nat),(x:Nat)<l/\(none:(Option Nat))=none/\(none:(Option Nat))=none/\g x h i b d e j k m f (IntKind.wrap .i64 (a+1)) ah)/\(decide (b<=p)=false->∃ (y:Nat),(y:Nat)<l/\(none:(Option Nat))=none/\(none:(Option Nat))=none/\g y h i b d e j k m f (IntKind.wrap .i64 (a+1)) c))/\(decide (o<=b)=false->∃ (z:Nat),(z:Nat)<l/\(none:(Option Nat))=none/\(none:(Option Nat))=none/\g z h i b d e j k m f (IntKind.wrap .i64 (a+1)) c))/\(decide (a<f)=false->y10 (.pointer (some ⟨d,e,none⟩)) c))
def vc48 (p0b p0o:Nat) (p1:OA) (p1n p1c:Nat) (p2:Int) (H:KH) (Q:PQ):Prop :=
 ((none:(Option Nat))=none/\∃ (d:(OA)) (a e:Nat),ld H ⟨p0b,p0o+0,none⟩ [(.slice d a e)]/\Does (env Try.prog) 43 [(.int .i64 (a:Int))] H fun f g=>∃ (b c:Nat),f=(.pointer (some ⟨b,c,none⟩))/\vc48_L1 p0b p0o p2 b c p1 p1n p1c g Q)
theorem fn48 (ok:EnvOk (env Try.prog)) {p0b p0o:Nat} {p1:OA} {p1n p1c:Nat} {p2:Int} {H:KH} {Q:PQ} (h:vc48 p0b p0o p1 p1n p1c p2 H Q):Does (env Try.prog) 48 [.pointer (some ⟨p0b,p0o,none⟩),.slice p1 p1n p1c,.int .u8 p2] H Q :=
 wFun_sound (W:=W48 Try.prog) ok.tt (blt_lt (by kernel_rfl)) (ff_of ok (by kernel_rfl) Try.func48) (Eq.mpr (by kernel_rfl) h)
def W61 (P:Program):WE:=⟨env P,tupT,[],mkTab [],61⟩
def vc61 (p0b p0o:Nat) (p1:Int) (H:KH) (Q:PQ):Prop :=
 ((none:(Option Nat))=none/\∃ (a:(OA)) (b f:Nat),ld H ⟨p0b,p0o+1,none⟩ [(.slice a b f)]/\(8:Int)≠0/\((0:Int)<=(IntKind.wrap .i64 (Int.tdiv p1 8))/\((IntKind.wrap .i64 (Int.tdiv p1 8)):Int)<(b:Int))/\∃ (c d:Nat),a=some ⟨c,d,none⟩/\∃ (e:Int),ld H ⟨c,d+((Int.toNat (IntKind.wrap .i64 (Int.tdiv p1 8)))*1),none⟩ [(.int .u8 e)]/\(8:Int)≠0/\(0:Int)<=(Int.tmod p1 8)/\Q (.bool (decide (((andI .u8 (Int.fdiv e (2 ^ (min (Int.toNat (Int.tmod p1 8)) (IntKind.bits .u8)))) 1):Int)=1))) H)
theorem fn61 (ok:EnvOk (env Try.prog)) {p0b p0o:Nat} {p1:Int} {H:KH} {Q:PQ} (h:vc61 p0b p0o p1 H Q):Does (env Try.prog) 61 [.pointer (some ⟨p0b,p0o,none⟩),.int .i64 p1] H Q :=
 wFun_sound (W:=W61 Try.prog) ok.tt (blt_lt (by kernel_rfl)) (ff_of ok (by kernel_rfl) Try.func61) (Eq.mpr (by kernel_rfl) h)
def W62 (P:Program):WE:=⟨env P,tupT,[],mkTab [(2,[.tmp 0 .ptr,.tmp 1 .ptr,.tmp 4 (.int .i64),.tmp 29 .slice,.tmp 30 (.int .i64),.tmp 31 (.int .i64)]),(0,[.tmp 0 .ptr,.tmp 1 .ptr,.tmp 4 (.int .i64)])],62⟩
def vc62_L1 (y1 y2 y3 y4:Nat) (y5:Int) (y6:OA) (y7 y8:Nat) (y9:KH) (y10:Nat) (y11:(Nat->(Nat->(Nat->(Nat->(Nat->(Int->(KH->Prop)))))))):Prop :=
 (∃ (f:(Nat->Nat->Nat->Nat->Nat->Int->OA->Nat->Nat->Int->Int->KH->Prop)),(∃ (s:Nat),(none:(Option Nat))=none/\(none:(Option Nat))=none/\f s y1 y2 y3 y4 y5 y6 y7 y8 (y7:Int) 0 y9)/\∀ (l g h b c:Nat) (i:Int) (j:(OA)) (k m:Nat) (d a:Int) (e:KH),f l g h b c i j k m d a e->(decide (a<d)=true->((0:Int)<=a/\a<(k:Int))/\∃ (n o:Nat),j=some ⟨n,o,none⟩/\∃ (p:Int),ld e ⟨n,o+((Int.toNat a)*1),none⟩ [(.int .i64 p)]/\Does (env Try.prog) 44 [.pointer (some ⟨b,c,none⟩),.int .i64 p] e fun t u=>t=(.tuple #[])/\∃ (q:Nat),(q:Nat)<l/\(none:(Option Nat))=none/\(none:(Option Nat))=none/\f q g h b c i j k m d (IntKind.wrap .i64 (a+1)) u)/\(decide (a<d)=false->∃ (r:Nat),(r:Nat)<y10/\(none:(Option Nat))=none/\(none:(Option Nat))=none/\y11 r g h b c (IntKind.wrap .i64 (i+1)) e))
def vc62_L3 (y1 y2 y3 y4:Nat) (y5:KH) (y6:PQ):Prop :=
 (∃ (f:(Nat->Nat->Nat->Nat->Nat->Int->KH->Prop)),(∃ (v:Nat),(none:(Option Nat))=none/\(none:(Option Nat))=none/\f v y1 y2 y3 y4 0 y5)/\∀ (j g h c d:Nat) (b:Int) (a:KH),f j g h c d b a->(none:(Option Nat))=none/\∃ (w:(OA)) (i x:Nat),ld a ⟨c,d+2,none⟩ [(.slice w i x)]/\(decide (b<(i:Int))=true->True/\(none:(Option Nat))=none/\∃ (k:(OA)) (l y:Nat),ld a ⟨g,h+0,none⟩ [(.slice k l y)]/\(none:(Option Nat))=none/\∃ (m:(OA)) (n z:Nat),ld a ⟨c,d+2,none⟩ [(.slice m n z)]/\((0:Int)<=b/\b<(n:Int))/\∃ (o p:Nat),m=some ⟨o,p,none⟩/\∃ (e:Int),ld a ⟨o,p+((Int.toNat b)*1),none⟩ [(.int .i64 e)]/\((0:Int)<=e/\e<(l:Int))/\∃ (q r:Nat),k=some ⟨q,r,none⟩/\(none:(Option Nat))=none/\∃ (s:(OA)) (t u:Nat),ld a ⟨q,(r+((Int.toNat e)*5))+3,none⟩ [(.slice s t u)]/\vc62_L1 g h c d b s t u a j f)/\(decide (b<(i:Int))=false->y6 (.tuple #[]) a))
def vc62 (p0b p0o p1b p1o:Nat) (H:KH) (Q:PQ):Prop :=
 (vc62_L3 p0b p0o p1b p1o H Q)
theorem fn62 (ok:EnvOk (env Try.prog)) {p0b p0o p1b p1o:Nat} {H:KH} {Q:PQ} (h:vc62 p0b p0o p1b p1o H Q):Does (env Try.prog) 62 [.pointer (some ⟨p0b,p0o,none⟩),.pointer (some ⟨p1b,p1o,none⟩)] H Q :=
 wFun_sound (W:=W62 Try.prog) ok.tt (blt_lt (by kernel_rfl)) (ff_of ok (by kernel_rfl) Try.func62) (Eq.mpr (by kernel_rfl) h)
def W64 (P:Program):WE:=⟨env P,tupT,[2],mkTab [],64⟩
def vc64 (p0b p0o:Nat) (H:KH) (Q:PQ):Prop :=
 ((none:(Option Nat))=none/\∃ (a:(OA)) (b e:Nat),ld H ⟨p0b,p0o+1,none⟩ [(.slice a b e)]/\∃ (c:(List Value)) (d:(List (UInt8))),((kold H 1 a b):(Option (List Value)))=(some c)/\((bytesOfCells c):(Option (List (UInt8))))=(some d)/\Q (.agg #[(.string (ByteArray.mk (List.toArray d)))]) H)
theorem fn64 (ok:EnvOk (env Try.prog)) {p0b p0o:Nat} {H:KH} {Q:PQ} (h:vc64 p0b p0o H Q):Does (env Try.prog) 64 [.pointer (some ⟨p0b,p0o,none⟩)] H Q :=
 wFun_sound (W:=W64 Try.prog) ok.tt (blt_lt (by kernel_rfl)) (ff_of ok (by kernel_rfl) Try.func64) (Eq.mpr (by kernel_rfl) h)
end Va
end Go.Proofs.Ytlgpleiobieniaa
namespace Go.Ew
open Go.Ev Go.Deep
def u8C (l:List Int):List Value:=l.map fun x=>.int .u8 x
theorem u8C_len (l:List Int):(u8C l).length=l.length:=by simp [u8C]
theorem u8C_app (a b:List Int):u8C (a++b)=u8C a++u8C b:=by simp [u8C]
theorem u8C_at {l:List Int} {k:Nat} {x:Int} (h:l[k]? = some x):((u8C l).drop (k*1)).take 1=[.int .u8 x]:=dropTake rfl fun j hj=>by
 match j,hj with
 | 0,_=>simp [u8C,h]
structure DrB (H:KH) (p:Nat) (N:Nat) (bs:List Int) (m:List Nat) (bp:Nat) (am:OA) (cm:Nat) (ex:List Value):Prop where
 pt:∃ e,H p=some e/\wrB e=true/\rd e.cells 0 3=some [.int .i64 ((N:Nat):Int),.slice (some ⟨bp,0,none⟩) (N/8+1) (N/8+1),.slice am m.length cm]
 byt:∃ e,H bp=some e/\wrB e=true/\rd e.cells 0 (N/8+1)=some (u8C bs)
 mem:Gr H 1 am m.length cm (natC m) ex
 bits:Bits N bs m
 nod:m.Nodup
 lt:∀ x∈m,x<N
 d1:p≠bp
 d2:blk am≠some p
 d3:blk am≠some bp
section
variable {H : KH} {p N bp : Nat} {bs : List Int} {m : List Nat} {am : OA} {cm : Nat} {ex : List Value}
theorem DrB.c0 (h:DrB H p N bs m bp am cm ex):ld H ⟨p,0+0,none⟩ [.int .i64 ((N:Nat):Int)]:=by
 obtain ⟨e,h1,h2,h3⟩:=h.pt
 have:=ldSub (ld_of h1 h3) 0 1 (by simp)
 simpa using this
theorem DrB.c1 (h:DrB H p N bs m bp am cm ex):ld H ⟨p,0+1,none⟩ [.slice (some ⟨bp,0,none⟩) (N/8+1) (N/8+1)]:=by
 obtain ⟨e,h1,h2,h3⟩:=h.pt
 have:=ldSub (ld_of h1 h3) 1 1 (by simp)
 simpa using this
theorem DrB.c2 (h:DrB H p N bs m bp am cm ex):ld H ⟨p,0+2,none⟩ [.slice am m.length cm]:=by
 obtain ⟨e,h1,h2,h3⟩:=h.pt
 have:=ldSub (ld_of h1 h3) 2 1 (by simp)
 simpa using this
theorem DrB.at_ (h:DrB H p N bs m bp am cm ex) {x:Nat} (hx:x<N):∃ b,bs[x/8]? = some b/\ld H ⟨bp,0+(x/8)*1,none⟩ [.int .u8 b]:=by
 obtain ⟨e,h1,h2,h3⟩:=h.byt
 have hl:x/8<bs.length:=by rw [h.bits.len]; omega
 refine ⟨bs[x/8],by simp [hl],?_⟩
 have:=ldSub (H:=H) (b:=bp) (o:=0) (cs:=u8C bs) ⟨rfl,e,h1,by rw [u8C_len,h.bits.len]; exact h3⟩ ((x/8)*1) 1 (by rw [u8C_len]; omega)
 rwa [u8C_at (show bs[x/8]? = some bs[x/8] by simp [hl])] at this
end
theorem tdiv8 (x:Nat):Int.tdiv ((x:Nat):Int) 8=((x/8:Nat):Int):=by
 rw [Int.tdiv_eq_ediv_of_nonneg (by omega)]; omega
theorem tmod8 (x:Nat):Int.tmod ((x:Nat):Int) 8=((x%8:Nat):Int):=by
 rw [Int.tmod_eq_emod_of_nonneg (by omega)]; omega
end Go.Ew
namespace Go.Proofs.Ytlgpleiobieniaa
open Go.Ev Go.Ew
namespace Va
section
variable (ok : EnvOk (env Try.prog))
include ok
theorem c61 {H:KH} {p N bp:Nat} {bs:List Int} {m:List Nat} {am:OA} {cm:Nat} {ex:List Value} {x:Nat} {Q:PQ} (h:DrB H p N bs m bp am cm ex) (hx:x<N) (hN:N<=900000) (hq:Q (.bool (decide (x∈m))) H):Does (env Try.prog) 61 [.pointer (some ⟨p,0,none⟩),.int .i64 ((x:Nat):Int)] H Q:=by
 obtain ⟨b,hb,hld⟩:=h.at_ hx
 have w1:IntKind.wrap .i64 (Int.tdiv ((x:Nat):Int) 8)=((x/8:Nat):Int):=by rw [tdiv8,wrap64 (by omega) (by omega)]
 have e0:Int.toNat ((x/8:Nat):Int)=x/8:=by omega
 have e1:Int.toNat ((x%8:Nat):Int)=x%8:=by omega
 refine fn61 ok ⟨rfl,_,_,_,h.c1,by omega,⟨by rw [w1]; omega,by rw [w1]; omega⟩,bp,0,rfl,b,by rw [w1,e0]; exact hld,by omega,by rw [tmod8]; omega,?_⟩
 rw [tmod8,e1]
 have hi:=h.bits.is (x/8) (x%8) b hb (by omega)
 have e:x/8*8+x%8=x:=by omega
 rw [e] at hi
 have:bitB b (x%8)=decide (x∈m):=by rw [Bool.eq_iff_iff,hi]; simp
 rw [<- this] at hq
 exact hq
end
end Va
end Go.Proofs.Ytlgpleiobieniaa
namespace Go.Ew
open Go.Ev Go.Deep
def DrIn (B:List Nat) (H:KH) (p:Nat) (m:List Nat) (N:Nat):Prop:=∃ bs bp am cm ex,DrB H p N bs m bp am cm ex/\B=p :: bp :: (blk am).toList
def strB (bs:List Int):ByteArray:=⟨(bs.map fun n=>UInt8.ofNat n.toNat).toArray⟩
theorem u8_bytes:∀ l:List Int,bytesOfCells (u8C l)=some (l.map fun n=>UInt8.ofNat n.toNat)
 | []=>rfl
 | x :: l=>by
   show (match bytesOfCells (u8C l) with | some r=>some (UInt8.ofNat x.toNat :: r) | none=>none)=_
   rw [u8_bytes l]; rfl
theorem strB_at {bs:List Int} {i:Nat} {b:Int} (h:bs[i]? = some b) (hr:0<=b/\b<=255):byteAt (strB bs) i=b:=by
 unfold byteAt strB
 simp only [List.getElem?_map,h,Option.map_some,Option.getD_some]
 have:(UInt8.ofNat b.toNat).toNat=b.toNat%256:=rfl
 omega
theorem strB_size (bs:List Int):(strB bs).size=bs.length:=by simp [strB,ByteArray.size]
end Go.Ew
namespace Go.Proofs.Ytlgpleiobieniaa
open Go.Ev Go.Ew
namespace Va
section
variable (ok : EnvOk (env Try.prog))
include ok
theorem c64 {B:List Nat} {H:KH} {p N:Nat} {m:List Nat} {Q:PQ} (h:DrIn B H p m N) (hq:∀ bs,Bits N bs m->Q (.agg #[.string (strB bs)]) H):Does (env Try.prog) 64 [.pointer (some ⟨p,0,none⟩)] H Q:=by
 obtain ⟨bs,bp,am,cm,ex,hs,rfl⟩:=h
 obtain ⟨e,h1,h2,h3⟩:=hs.byt
 exact fn64 ok ⟨rfl,_,_,_,hs.c1,_,_,kold_some.2 ⟨e,h1,by rw [Nat.mul_one]; exact h3⟩,u8_bytes bs,hq bs hs.bits⟩
theorem c43 {H:KH} {N:Nat} {Q:PQ} (hN:N<=900000) (hq:∀ B H' p,DrIn B H' p [] N->Le H H'->(∀ b∈B,H b=none)->Q (.pointer (some ⟨p,0,none⟩)) H'):Does (env Try.prog) 43 [.int .i64 ((N:Nat):Int)] H Q:=by
 have w1:IntKind.wrap .i64 (IntKind.wrap .i64 (Int.tdiv ((N:Nat):Int) 8)+1)=((N/8+1:Nat):Int):=by rw [tdiv8,wrap64 (x:=((N/8:Nat):Int)) (by omega) (by omega),wrap64 (by omega) (by omega)]; omega
 have e0:Int.toNat ((N/8+1:Nat):Int)=N/8+1:=by omega
 refine fn43 ok ⟨by omega,⟨by rw [w1]; omega,Int.le_refl _,by rw [w1]; omega⟩,fun n1 h1 n2 h2=>?_⟩
 rw [w1,e0] at h2 ⊢
 have l1:=Le.new (e:=mkEnt (lrep [.int .u8 0] (N/8+1)) 0) h1
 have l2:=Le.new (e:=mkEnt (Array.toList #[.int .i64 ((N:Nat):Int),.slice (some ⟨n1,0,none⟩) (N/8+1) (N/8+1),.slice none 0 0]) 0) h2
 have hne:n1≠n2:=fun z=>by rw [<- z] at h2; simp [KH.new] at h2
 have hrep:∀ n,lrep [Value.int .u8 0] n=u8C (List.replicate n 0):=by
  intro n
  induction n with
  | zero=>rfl
  | succ n ih=>simp only [lrep,ih,List.replicate_succ,u8C,List.map_cons]; rfl
 have hh:∀ cs:List Value,rd (mkEnt cs 0).cells 0 cs.length=some cs:=fun cs=>rd_some rfl fun j v hv=>by rw [Nat.zero_add]; simp only [mkEnt,tget_wr_nil]; exact hv
 refine hq (n2 :: n1 :: (blk (none:OA)).toList) _ n2 ⟨List.replicate (N/8+1) 0,n1,none,0,[],⟨⟨_,if_pos rfl,rfl,hh _⟩,⟨mkEnt (lrep [.int .u8 0] (N/8+1)) 0,l2 n1 _ (if_pos rfl),rfl,?_⟩,.nil,Bits.nil N,List.nodup_nil,(fun x hx=>by cases hx),hne.symm,(fun z=>by cases z),fun z=>by cases z⟩,rfl⟩ (l1.trans l2) fun b hb=>?_
 .have hl:(u8C (List.replicate (N/8+1) 0)).length=N/8+1:=by simp [u8C]
  have:=hh (u8C (List.replicate (N/8+1) 0))
  rw [hl] at this
  rw [hrep]
  exact this
 .rcases List.mem_cons.1 hb with z | hb
  .rw [z]; exact l1.none h2
  .have:b=n1:=by simpa [blk] using hb
   rw [this]; exact h1
theorem c44 {B:List Nat} {H:KH} {p N:Nat} {m:List Nat} {x:Int} {Q:PQ} (h:DrIn B H p m N) (hN:N<=900000) (hq:∀ B' H',DrIn B' H' p (addS N m x) N->Fr1 B B' H H'->Q (.tuple #[]) H'):Does (env Try.prog) 44 [.pointer (some ⟨p,0,none⟩),.int .i64 x] H Q:=by
 have h0:=h
 obtain ⟨bs,bp,am,cm,ex,hs,rfl⟩:=h
 unfold addS at hq
 refine fn44 ok ⟨fun h1=>?_,fun h1=>⟨rfl,_,hs.c0,fun h2=>?_,fun h2=>?_⟩⟩
 .rw [if_pos (of_decide_eq_true h1)] at hq
  exact hq _ H h0 (Fr1.refl _ _)
 .rw [if_neg (of_decide_eq_false h1),if_pos (of_decide_eq_true h2)] at hq
  exact hq _ H h0 (Fr1.refl _ _)
 rw [if_neg (of_decide_eq_false h1),if_neg (of_decide_eq_false h2)] at hq
 have h1:=of_decide_eq_false h1
 have h2:=of_decide_eq_false h2
 obtain ⟨y,rfl⟩:∃ y:Nat,x=y:=⟨x.toNat,by omega⟩
 have hy:y<N:=by omega
 have e0:Int.toNat ((y:Nat):Int)=y:=by omega
 rw [e0] at hq
 refine c61 ok hs hy hN ⟨_,rfl,fun h3=>?_,fun h3=>?_⟩
 .rw [if_pos (of_decide_eq_true h3)] at hq
  exact hq _ H h0 (Fr1.refl _ _)
 have h3:=of_decide_eq_false h3
 rw [if_neg h3] at hq
 have hml:=nodup_le N m hs.nod hs.lt
 obtain ⟨b,hb,hld⟩:=hs.at_ hy
 have hbl:y/8<bs.length:=by rw [hs.bits.len]; omega
 obtain ⟨ep,p1,p2,p3⟩:=hs.byt
 obtain ⟨eq,q1,q2,q3⟩:=hs.pt
 have w1:IntKind.wrap .i64 (Int.tdiv ((y:Nat):Int) 8)=((y/8:Nat):Int):=by rw [tdiv8,wrap64 (by omega) (by omega)]
 have e8:Int.toNat ((y/8:Nat):Int)=y/8:=by omega
 have e9:Int.toNat ((y%8:Nat):Int)=y%8:=by omega
 rw [w1,tmod8,e8,e9]
 have hH1q:(H.put ⟨bp,0+y/8*1,none⟩ [.int .u8 (setB b (y%8))]) p=some eq:=put_ne hs.d1 q1
 have hc0':ld (H.put ⟨bp,0+y/8*1,none⟩ [.int .u8 (setB b (y%8))]) ⟨p,0+2,none⟩ [.slice am m.length cm]:=by
  have:=ldSub (ld_of hH1q q3) 2 1 (by simp)
  simpa using this
 refine ⟨trivial,rfl,_,_,_,hs.c1,by omega,⟨by omega,by omega⟩,bp,0,rfl,b,hld,by omega,by omega,⟨by omega,by omega⟩,bp,0,rfl,stOk hld rfl,⟨ep,p1,p2⟩,trivial,rfl,am,_,cm,hc0',fun n13 h13 n14 h14=>?_⟩
 have h13:(H.put ⟨bp,0+y/8*1,none⟩ [.int .u8 (setB b (y%8))]) n13=none:=h13
 have h14:((H.put ⟨bp,0+y/8*1,none⟩ [.int .u8 (setB b (y%8))]).new n13 (mkEnt [.int .i64 ((y:Nat):Int)] 0)) n14=none:=h14
 have l13:=Le.new (e:=mkEnt [.int .i64 ((y:Nat):Int)] 0) h13
 have hmem:Gr ((H.put ⟨bp,0+y/8*1,none⟩ [.int .u8 (setB b (y%8))]).new n13 (mkEnt [.int .i64 ((y:Nat):Int)] 0)) 1 am m.length cm (natC m) ex:=hs.mem.agree fun k e z1 z2=>l13 k e (put_ne (fun z=>hs.d3 (by rw [z1,z])) z2)
 obtain ⟨a',H',ex',f1,f2,_,f4,f5⟩:=hmem.append (ti:=IT1) (new:=[.int .i64 ((y:Nat):Int)]) h14 rfl (by omega) (by decide) (by decide)
 have h14':(H.put ⟨bp,0+y/8*1,none⟩ [.int .u8 (setB b (y%8))]) n14=none:=l13.none h14
 have h14'':H n14=none:=by
  rcases none_or H n14 with z | ⟨e,z⟩
  .exact z
  .by_cases hb:n14=bp
   .rw [hb] at h14'
    simp only [KH.put,if_true,p1,Option.map_some] at h14'; cases h14'
   .rw [put_ne hb z] at h14'; cases h14'
 have kp1:∀ k e,H k=some e->k≠bp->blk am≠some k->H' k=some e:=fun k e z1 z2 z3=>f4 k e (l13 k e (put_ne z2 z1)) z3
 have hq':H' p=some eq:=kp1 p eq q1 hs.d1 hs.d2
 have hp':H' bp=some ⟨wr ep.cells (0+y/8*1) [.int .u8 (setB b (y%8))],ep.len,ep.unk,none⟩:=f4 bp _ (l13 bp _ (by simp only [KH.put,if_true,p1,Option.map_some])) hs.d3
 have ha':∀ b,blk a'=some b->b≠p/\b≠bp/\(blk am=some b\/H b=none):=fun b z=>by
  rcases f5 b z with u | u
  .exact ⟨fun v=>hs.d2 (by rw [u,v]),fun v=>hs.d3 (by rw [u,v]),.inl u⟩
  .subst u
   exact ⟨fun v=>(by rw [v,q1] at h14''; cases h14''),fun v=>(by rw [v,p1] at h14''; cases h14''),.inr h14''⟩
 have hw2:ld H' ⟨p,0+2,none⟩ [.slice am m.length cm]:=by
  have:=ldSub (ld_of hq' q3) 2 1 (by simp)
  simpa using this
 refine ⟨1,_,knew_of (lit_kold (if_pos rfl) rfl),a',_,_,H',f1,rfl,stOk hw2 rfl,⟨eq,hq',q2⟩,?_⟩
 refine hq (p :: bp :: (blk a').toList) _ ⟨bs.set (y/8) (setB b (y%8)),bp,a',unkU,ex',⟨⟨⟨wr eq.cells (0+2) [.slice a' (m.length+1) unkU],eq.len,eq.unk,none⟩,by simp only [KH.put,if_true,hq',Option.map_some],wrB_keep q2,?_⟩,⟨_,put_ne hs.d1.symm hp',wrB_keep p2,?_⟩,?_,hs.bits.add hy hb,?_,?_,hs.d1,fun z=>(ha' p z).1 rfl,fun z=>(ha' bp z).2.1 rfl⟩,rfl⟩ ⟨fun k e z1 z2=>?_,fun b z=>?_⟩
 .have hl:(m++[y]).length=m.length+1:=by simp
  rw [hl]
  have:=rdWr (e:=eq.cells) (N:=3) (o:=0+2) (xs:=[.int .i64 ((N:Nat):Int),.slice (some ⟨bp,0,none⟩) (N/8+1) (N/8+1)]) (ys:=[.slice am m.length cm]) (zs:=[]) (vs:=[.slice a' (m.length+1) unkU]) (by simpa using q3) rfl rfl
  simpa using this
 .have hsp:u8C bs=u8C (bs.take (y/8))++[.int .u8 bs[y/8]]++u8C (bs.drop (y/8+1)):=by
   have:bs=bs.take (y/8)++[bs[y/8]]++bs.drop (y/8+1):=by
    rw [List.append_assoc]
    have h2:[bs[y/8]]++bs.drop (y/8+1)=bs.drop (y/8):=by rw [List.drop_eq_getElem_cons hbl]; rfl
    rw [h2,List.take_append_drop]
   have h3:=congrArg u8C this
   rw [u8C_app,u8C_app] at h3
   exact h3
  have hst:u8C (bs.set (y/8) (setB b (y%8)))=u8C (bs.take (y/8))++[.int .u8 (setB b (y%8))]++u8C (bs.drop (y/8+1)):=by
   rw [List.set_eq_take_append_cons_drop,if_pos hbl]
   simp [u8C]
  rw [hst]
  exact rdWr (ys:=[.int .u8 bs[y/8]]) (by rw [p3,hsp]) (by rw [u8C_len,List.length_take]; omega) rfl
 .have hl:(m++[y]).length=m.length+1:=by simp
  have hn:natC (m++[y])=natC m++[.int .i64 ((y:Nat):Int)]:=by simp [natC]
  rw [hl,hn]
  exact f2.agree fun k e z1 z2=>put_ne (fun z=>(ha' k z1).1 z) z2
 .rw [List.nodup_append]
  exact ⟨hs.nod,by simp,fun a z1 b z2 z3=>by
   have z2:b=y:=by simpa using z2
   exact h3 (by rw [<- z2,<- z3]; exact z1)⟩
 .intro z hz
  rcases List.mem_append.1 hz with hz | hz
  .exact hs.lt z hz
  .have:z=y:=by simpa using hz
   rw [this]; exact hy
 .have n1:k≠p:=fun u=>z2 (by simp [u])
  have n2:k≠bp:=fun u=>z2 (by simp [u])
  have n3:blk am≠some k:=fun u=>z2 (by simp [u])
  exact put_ne n1 (kp1 k e z1 n2 n3)
 .rcases List.mem_cons.1 z with u | z
  .exact .inl (by simp [u])
  rcases List.mem_cons.1 z with u | z
  .exact .inl (by simp [u])
  .have z:blk a'=some b:=by simpa using z
   rcases (ha' b z).2.2 with v | v
   .exact .inl (by simp [v])
   .exact .inr v
end
end Va
end Go.Proofs.Ytlgpleiobieniaa
namespace Go.Ew
open Go.Ev Go.Deep
structure BdS (X:KH) (w:Nat) (S:List St) (a:OA) (c:Nat):Prop where
 st:SsN X S a
 wc:∀ H',Le X H'->ld H' ⟨w,0+0,none⟩ [.slice a S.length c]
theorem BdS.state {X:KH} {w c:Nat} {S:List St} {a:OA} (h:BdS X w S a c) {x:Nat} (hx:x<S.length):∃ b o af cf,a=some ⟨b,o,none⟩/\(∀ H',Le X H'->ld H' ⟨b,o+x*5,none⟩ (stC (stAt S x) af cf))/\kold X 1 af (stAt S x).free.length=some (inC (stAt S x).free):=by
 obtain ⟨cs,h1,h2⟩:=h.st
 obtain ⟨b,o,e,r⟩:=rowAddr h1 (by omega)
 have hs:S[x]? = some (stAt S x):=by unfold stAt; simp [hx]
 obtain ⟨af,cf,g1,g2⟩:=h2.get hs
 have:=r (x*5) 5 (by omega)
 rw [g1] at this
 exact ⟨b,o,af,cf,e,fun H' hl=>hl.ld this,g2⟩
structure DrW (X H:KH) (B:List Nat) (p N:Nat) (m:List Nat):Prop where
 le:Le X H
 dr:DrIn B H p m N
 out:∀ b∈B,X b=none
theorem DrW.step {X H H':KH} {B B':List Nat} {p N:Nat} {m m':List Nat} (h:DrW X H B p N m) (hd:DrIn B' H' p m' N) (hf:Fr1 B B' H H'):DrW X H' B' p N m':=by
 refine ⟨fun k e q=>hf.kp k e (h.le k e q) fun z=>?_,hd,fun b hb=>?_⟩
 .rw [h.out k z] at q; cases q
 .rcases hf.nw b hb with z | z
  .exact h.out b z
  .exact h.le.none z
end Go.Ew
namespace Go.Proofs.Ytlgpleiobieniaa
open Go.Ev Go.Ew
namespace Va
section
variable (ok : EnvOk (env Try.prog))
include ok
theorem l74 {X H:KH} {w p:Nat} {S:List St} {B m:List Nat} {f:List Int} {af:OA} {cf i M:Nat} {I:Nat->Nat->Nat->Nat->Nat->Int->KH->Prop} (h:DrW X H B p S.length m) (hf:kold X 1 af f.length=some (inC f)) (hS:S.length<=900000) (hfl:f.length<=1000000)
 (hI:∀ H' B',DrW X H' B' p S.length (f.foldl (addS S.length) m)->∃ n13,n13<M/\(none:Option Nat)=none/\(none:Option Nat)=none/\I n13 w 0 p 0 (IntKind.wrap .i64 (((i:Nat):Int)+1)) H'):vc62_L1 w 0 p 0 ((i:Nat):Int) af f.length cf H M I:=by
 unfold vc62_L1
 refine ⟨fun n3 n4 n5 n6 n7 x8 a9 n10 n11 x12 x13 H14=>n4=w/\n5=0/\n6=p/\n7=0/\x8=(i:Nat)/\a9=af/\n10=f.length/\x12=(f.length:Nat)/\∃ (k:Nat) (B':List Nat),x13=k/\k<=f.length/\n3=f.length-k/\DrW X H14 B' p S.length ((f.take k).foldl (addS S.length) m),⟨f.length,rfl,rfl,rfl,rfl,rfl,rfl,rfl,rfl,rfl,rfl,0,B,rfl,by omega,rfl,by simpa using h⟩,?_⟩
 rintro n3 n4 n5 n6 n7 x8 a9 n10 n11 x12 x13 H14 ⟨rfl,rfl,rfl,rfl,rfl,rfl,rfl,rfl,k,B',rfl,hk,rfl,hW⟩
 refine ⟨fun hlt=>?_,fun hge=>?_⟩
 .have hlt:k<f.length:=by have:=of_decide_eq_true hlt; omega
  have e0:Int.toNat ((k:Nat):Int)=k:=by omega
  obtain ⟨b1,o1,e1,r1⟩:=rowAddr (hW.le.kold hf) (by omega)
  have g1:=r1 (k*1) 1 (by omega)
  rw [inC_at (show f[k]? = some f[k] by simp [hlt])] at g1
  rw [e0]
  refine ⟨⟨by omega,by omega⟩,b1,o1,e1,_,g1,c44 ok hW.dr hS fun B2 H' hs hfr=>⟨rfl,f.length-(k+1),by omega,rfl,rfl,rfl,rfl,rfl,rfl,rfl,rfl,rfl,rfl,k+1,B2,by rw [wrap64 (by omega) (by omega)]; omega,by omega,rfl,?_⟩⟩
  rw [List.take_succ_eq_append_getElem hlt,List.foldl_append]
  exact hW.step hs hfr
 .have hge:k=f.length:=by have:=of_decide_eq_false hge; omega
  subst hge
  rw [List.take_length] at hW
  exact hI H14 B' hW
theorem c62 {X H:KH} {w p:Nat} {S:List St} {a:OA} {c:Nat} {B m:List Nat} {Q:PQ} (hb:BdS X w S a c) (h:DrW X H B p S.length m) (hS:S.length<=900000) (hfl:∀ x,(stAt S x).free.length<=1000000)
 (hq:∀ H' B',DrW X H' B' p S.length (clM S m)->Q (.tuple #[]) H'):Does (env Try.prog) 62 [.pointer (some ⟨w,0,none⟩),.pointer (some ⟨p,0,none⟩)] H Q:=by
 refine fn62 ok ?_
 unfold vc62 vc62_L3
 refine ⟨fun n3 n4 n5 n6 n7 x8 H9=>n4=w/\n5=0/\n6=p/\n7=0/\∃ (i:Nat) (B' m':List Nat),x8=i/\i<=S.length/\n3=S.length+1-i/\DrW X H9 B' p S.length m'/\spM S (S.length+1-i) i m'=clM S m,⟨S.length+1,rfl,rfl,rfl,rfl,rfl,rfl,0,B,m,rfl,by omega,rfl,h,rfl⟩,?_⟩
 rintro n3 n4 n5 n6 n7 x8 H9 ⟨rfl,rfl,rfl,rfl,i,B',m',rfl,hi,rfl,hW,hm⟩
 obtain ⟨bs,bp,am,cm,ex,hs,hB1⟩:=hW.dr
 have hml:=nodup_le _ m' hs.nod hs.lt
 obtain ⟨f,hf⟩:∃ f,S.length+1-i=f+1:=⟨S.length-i,by omega⟩
 rw [hf,spM] at hm
 refine ⟨rfl,am,_,cm,hs.c2,fun hlt=>?_,fun hge=>?_⟩
 .have hlt:i<m'.length:=by have:=of_decide_eq_true hlt; omega
  have hmi:m'[i]? = some m'[i]:=by simp [hlt]
  rw [hmi] at hm
  have hx:=hs.lt m'[i] (List.getElem_mem hlt)
  have e0:Int.toNat ((i:Nat):Int)=i:=by omega
  have e1:Int.toNat ((m'[i]:Nat):Int)=m'[i]:=by omega
  obtain ⟨b1,o1,z1,r1⟩:=rowAddr hs.mem.row (by omega)
  have g1:=r1 (i*1) 1 (by omega)
  rw [natC_at hmi] at g1
  obtain ⟨b2,o2,af,cf,z2,hst,hfr⟩:=hb.state hx
  refine ⟨trivial,rfl,a,_,c,hb.wc H9 hW.le,rfl,am,_,cm,hs.c2,⟨by omega,by omega⟩,b1,o1,z1,_,by rw [e0]; exact g1,⟨by omega,by omega⟩,b2,o2,z2,rfl,af,_,cf,by rw [e1]; exact stC_ld3 (hst H9 hW.le),?_⟩
  refine l74 ok hW hfr hS (hfl _) fun H' B2 hW'=>⟨S.length-i,by omega,rfl,rfl,rfl,rfl,rfl,rfl,i+1,B2,_,by rw [wrap64 (by omega) (by omega)]; omega,by omega,by omega,hW',?_⟩
  have:S.length+1-(i+1)=f:=by omega
  rw [this]
  exact hm
 .have hge:m'.length<=i:=by have:=of_decide_eq_false hge; omega
  rw [List.getElem?_eq_none hge] at hm
  have hm:m'=clM S m:=hm
  subst hm
  exact hq H9 B' hW
theorem c48 {X H:KH} {w:Nat} {S:List St} {a am:OA} {c cm:Nat} {K:List Nat} {ch:Int} {Q:PQ} (hb:BdS X w S a c) (hX:Le X H) (hK:kold X 1 am K.length=some (natC K)) (hlt:∀ x∈K,x<S.length) (hS:S.length<=900000) (hKl:K.length<=1000000)
 (hq:∀ H' B p,DrW X H' B p S.length (K.foldl (moveM S ch) [])->Le H H'->(∀ b∈B,H b=none)->Q (.pointer (some ⟨p,0,none⟩)) H'):Does (env Try.prog) 48 [.pointer (some ⟨w,0,none⟩),.slice am K.length cm,.int .u8 ch] H Q:=by
 refine fn48 ok ⟨rfl,a,_,c,hb.wc H hX,c43 ok hS fun B H5 p hd hl5 hout=>⟨p,0,rfl,?_⟩⟩
 unfold vc48_L1
 have h0:DrW H H5 B p S.length []:=⟨hl5,hd,hout⟩
 refine ⟨fun n3 n4 n5 x6 n7 n8 a9 n10 n11 x12 x13 H14=>n4=w/\n5=0/\x6=ch/\n7=p/\n8=0/\a9=am/\n10=K.length/\x12=(K.length:Nat)/\∃ (k:Nat) (B':List Nat),x13=k/\k<=K.length/\n3=K.length-k/\DrW H H14 B' p S.length ((K.take k).foldl (moveM S ch) []),⟨K.length,rfl,rfl,rfl,rfl,rfl,rfl,rfl,rfl,rfl,rfl,0,B,rfl,by omega,rfl,by simpa using h0⟩,?_⟩
 rintro n3 n4 n5 x6 n7 n8 a9 n10 n11 x12 x13 H14 ⟨rfl,rfl,rfl,rfl,rfl,rfl,rfl,rfl,k,B',rfl,hk,rfl,hW⟩
 refine ⟨fun hlt2=>?_,fun hge=>?_⟩
 .have hlt2:k<K.length:=by have:=of_decide_eq_true hlt2; omega
  have e0:Int.toNat ((k:Nat):Int)=k:=by omega
  have e1:Int.toNat ((K[k]:Nat):Int)=K[k]:=by omega
  have hx:=hlt K[k] (List.getElem_mem hlt2)
  have hle:=hX.trans hW.le
  obtain ⟨b1,o1,z1,r1⟩:=rowAddr (hle.kold hK) (by omega)
  have g1:=r1 (k*1) 1 (by omega)
  rw [natC_at (show K[k]? = some K[k] by simp [hlt2])] at g1
  obtain ⟨b2,o2,af,cf,z2,hst,hfr⟩:=hb.state hx
  have wk:IntKind.wrap .i64 (((k:Nat):Int)+1)=((k+1:Nat):Int):=by rw [wrap64 (by omega) (by omega)]; omega
  have nxt:∀ {B2:List Nat} {H2:KH},DrW H H2 B2 n7 S.length (moveM S x6 ((K.take k).foldl (moveM S x6) []) K[k])->DrW H H2 B2 n7 S.length ((K.take (k+1)).foldl (moveM S x6) []):=fun h=>by
   rw [List.take_succ_eq_append_getElem hlt2,List.foldl_append]
   exact h
  rw [e0,wk]
  refine ⟨⟨by omega,by omega⟩,b1,o1,z1,_,g1,rfl,a,_,c,hb.wc H14 hle,⟨by omega,by omega⟩,b2,o2,z2,(stAt S K[k]).lo,(stAt S K[k]).hi,(stAt S K[k]).next,af,_,cf,(stAt S K[k]).e,by rw [e1]; exact hst H14 hle,fun q1=>⟨fun q2=>?_,fun q2=>?_⟩,fun q1=>?_⟩
  .have q1:=of_decide_eq_true q1
   have q2:=of_decide_eq_true q2
   refine c44 ok hW.dr hS fun B2 H2 hs hfr=>⟨rfl,K.length-(k+1),by omega,rfl,rfl,rfl,rfl,rfl,rfl,rfl,rfl,rfl,rfl,k+1,B2,rfl,by omega,rfl,nxt ?_⟩
   unfold moveM
   rw [if_pos ⟨q1,q2⟩]
   exact hW.step hs hfr
  .have q2:=of_decide_eq_false q2
   refine ⟨K.length-(k+1),by omega,rfl,rfl,rfl,rfl,rfl,rfl,rfl,rfl,rfl,rfl,k+1,B',rfl,by omega,rfl,nxt ?_⟩
   unfold moveM
   rw [if_neg fun z=>q2 z.2]
   exact hW
  .have q1:=of_decide_eq_false q1
   refine ⟨K.length-(k+1),by omega,rfl,rfl,rfl,rfl,rfl,rfl,rfl,rfl,rfl,rfl,k+1,B',rfl,by omega,rfl,nxt ?_⟩
   unfold moveM
   rw [if_neg fun z=>q1 z.1]
   exact hW
 .have hge:k=K.length:=by have:=of_decide_eq_false hge; omega
  subst hge
  rw [List.take_length] at hW
  exact hq H14 B' n7 ⟨hX.trans hW.le,hW.dr,fun b hb=>hX.none (hW.out b hb)⟩ hW.le hW.out
theorem c47 {X H:KH} {w:Nat} {S:List St} {a am:OA} {c cm:Nat} {K:List Nat} {Q:PQ} (hb:BdS X w S a c) (hX:Le X H) (hK:kold X 1 am K.length=some (natC K)) (hlt:∀ x∈K,x<S.length) (hS:S.length<=900000) (hKl:K.length<=1000000)
 (hq:Q (.int .i64 (endM S K)) H):Does (env Try.prog) 47 [.pointer (some ⟨w,0,none⟩),.slice am K.length cm] H Q:=by
 refine fn47 ok ?_
 unfold vc47 vc47_L1
 refine ⟨fun n3 n4 n5 x6 a7 n8 n9 x10 x11 H12=>n4=w/\n5=0/\a7=am/\n8=K.length/\x10=(K.length:Nat)/\H12=H/\∃ k:Nat,x11=k/\k<=K.length/\n3=K.length-k/\x6=(K.take k).foldl (leastM S) 0,⟨K.length,rfl,rfl,rfl,rfl,rfl,rfl,rfl,0,rfl,by omega,rfl,by simp⟩,?_⟩
 rintro n3 n4 n5 x6 a7 n8 n9 x10 x11 H12 ⟨rfl,rfl,rfl,rfl,rfl,rfl,k,rfl,hk,rfl,rfl⟩
 refine ⟨fun hl2=>?_,fun hge=>?_⟩
 .have hl2:k<K.length:=by have:=of_decide_eq_true hl2; omega
  have hmi:K[k]? = some K[k]:=by simp [hl2]
  have hx:=hlt K[k] (List.getElem_mem hl2)
  have e0:Int.toNat ((k:Nat):Int)=k:=by omega
  have e1:Int.toNat ((K[k]:Nat):Int)=K[k]:=by omega
  obtain ⟨b1,o1,z1,r1⟩:=rowAddr (hX.kold hK) (by omega)
  have g1:=r1 (k*1) 1 (by omega)
  rw [natC_at hmi] at g1
  obtain ⟨b2,o2,af,cf,z2,hst,hfr⟩:=hb.state hx
  have hnext:(K.take (k+1)).foldl (leastM S) 0=leastM S ((K.take k).foldl (leastM S) 0) K[k]:=by
   rw [List.take_succ_eq_append_getElem hl2,List.foldl_append]; rfl
  generalize hy0:(K.take k).foldl (leastM S) 0=y0 at *
  have go:∀ y,leastM S y0 K[k]=y->∃ n10,n10<K.length-k/\(none:Option Nat)=none/\(n4=n4/\0=0/\a7=a7/\K.length=K.length/\((K.length:Nat):Int)=(K.length:Nat)/\H12=H12/\∃ k_1:Nat,IntKind.wrap .i64 (((k:Nat):Int)+1)=k_1/\k_1<=K.length/\n10=K.length-k_1/\y=(K.take k_1).foldl (leastM S) 0):=fun y hy=>⟨K.length-(k+1),by omega,rfl,rfl,rfl,rfl,rfl,rfl,rfl,k+1,by rw [wrap64 (by omega) (by omega)]; omega,by omega,rfl,by rw [hnext,hy]⟩
  refine ⟨⟨by omega,by omega⟩,b1,o1,z1,_,by rw [e0]; exact g1,rfl,a,_,c,hb.wc H12 hX,⟨by omega,by omega⟩,b2,o2,z2,rfl,_,by rw [e1]; exact stC_ld4 (hst H12 hX),fun t1=>⟨fun t2=>?_,fun t2=>⟨fun t3=>?_,fun t3=>?_⟩⟩,fun t1=>?_⟩
  .refine go _ ?_
   unfold leastM
   rw [if_pos (of_decide_eq_true t1),if_pos (of_decide_eq_true t2)]
  .refine go _ ?_
   unfold leastM
   rw [if_pos (of_decide_eq_true t1),if_neg (of_decide_eq_false t2),if_pos (of_decide_eq_true t3)]
  .refine go _ ?_
   unfold leastM
   rw [if_pos (of_decide_eq_true t1),if_neg (of_decide_eq_false t2),if_neg (of_decide_eq_false t3)]
  .refine go _ ?_
   unfold leastM
   rw [if_neg (of_decide_eq_false t1)]
 .have hge:k=K.length:=by have:=of_decide_eq_false hge; omega
  subst hge
  rw [List.take_length]
  exact hq
end
end Va
end Go.Proofs.Ytlgpleiobieniaa
namespace Go.Proofs.Ytlgpleiobieniaa
open Go.Ev Go.Ew
namespace Va
def W42 (P:Program):WE:=⟨env P,tupT,[0],mkTab [],42⟩
def vc42 (H:KH) (Q:PQ):Prop :=
 (∀ (a:Nat),((H a):(Option (Ent)))=none->Q (.agg #[.map (some a),.slice none 0 0]) (KH.new H a (mpE [])))
theorem fn42 (ok:EnvOk (env Try.prog))  {H:KH} {Q:PQ} (h:vc42  H Q):Does (env Try.prog) 42 [] H Q :=
 wFun_sound (W:=W42 Try.prog) ok.tt (blt_lt (by kernel_rfl)) (ff_of ok (by kernel_rfl) Try.func42) (Eq.mpr (by kernel_rfl) h)
def W63 (P:Program):WE:=⟨env P,tupT,[3],mkTab [],63⟩
def vc63 (p0b p0o:Nat) (p1_0:ByteArray) (H:KH) (Q:PQ):Prop :=
 (True/\(none:(Option Nat))=none/\∃ (r:Nat),ld H ⟨p0b,p0o+0,none⟩ [(.map (some r))]/\∃ (i:(List (Value × Value))),mpAt H r i/\((NoKey (env Try.prog) 89 3 i (.agg #[(.string p1_0)]) (.int .i64 0)/\((!false)=true->(none:(Option Nat))=none/\∃ (aj:(OA)) (j ak:Nat),ld H ⟨p0b,p0o+1,none⟩ [(.slice aj j ak)]/\True/\(none:(Option Nat))=none/\∃ (a:Nat),ld H ⟨p0b,p0o+0,none⟩ [(.map (some a))]/\∃ (s:(List (Value × Value))) (c:(List (Value × Value))),mpAt H a s/\UpdIs (env Try.prog) 89 s (.agg #[(.string p1_0)]) (.int .i64 (j:Int)) c/\True/\True/\(none:(Option Nat))=none/\∃ (t:(OA)) (u v:Nat),ld (KH.new H a (mpE c)) ⟨p0b,p0o+1,none⟩ [(.slice t u v)]/\∀ (e:Nat),(((KH.new H a (mpE c)) e):(Option (Ent)))=none->∀ (w:Nat),(((KH.new (KH.new H a (mpE c)) e (mkEnt [(.string p1_0)] 0)) w):(Option (Ent)))=none->∃ (x:Nat) (y:(List Value)),((knew (KH.new (KH.new H a (mpE c)) e (mkEnt [(.string p1_0)] 0)) ⟨1,16,true,3,0,0,[(0,1)],[(.string (ByteArray.mk #[]))]⟩ (.slice (some ⟨e,0,none⟩) 1 1)):(Option (Nat × (List Value))))=(some (x,y))/\∃ (k:(OA)) (l m:Nat) (g:KH),((kappend (KH.new (KH.new H a (mpE c)) e (mkEnt [(.string p1_0)] 0)) w ⟨1,16,true,3,0,0,[(0,1)],[(.string (ByteArray.mk #[]))]⟩ t u v x y):(Option (Value × KH)))=(some (.slice k l m,g))/\(((.pointer (some ⟨p0b,p0o,none⟩)):Value)=(.pointer (some ⟨p0b,p0o,none⟩))/\True)/\(none:(Option Nat))=none/\(∃ (z:(List Value)),((List.length z):Nat)=(List.length [(Value.slice k l m)])/\ld g ⟨p0b,p0o+1,none⟩ z)/\KH.may g p0b/\True/\Q (.int .i64 (j:Int)) (KH.put g ⟨p0b,p0o+1,none⟩ [(.slice k l m)]))/\((!false)=false->Q (.int .i64 0) H))\/(∃ (aa:Int),HasKey (env Try.prog) 89 i (.agg #[(.string p1_0)]) (.int .i64 aa)/\((!true)=true->(none:(Option Nat))=none/\∃ (al:(OA)) (n am:Nat),ld H ⟨p0b,p0o+1,none⟩ [(.slice al n am)]/\True/\(none:(Option Nat))=none/\∃ (b:Nat),ld H ⟨p0b,p0o+0,none⟩ [(.map (some b))]/\∃ (ab:(List (Value × Value))) (d:(List (Value × Value))),mpAt H b ab/\UpdIs (env Try.prog) 89 ab (.agg #[(.string p1_0)]) (.int .i64 (n:Int)) d/\True/\True/\(none:(Option Nat))=none/\∃ (ac:(OA)) (ad ae:Nat),ld (KH.new H b (mpE d)) ⟨p0b,p0o+1,none⟩ [(.slice ac ad ae)]/\∀ (f:Nat),(((KH.new H b (mpE d)) f):(Option (Ent)))=none->∀ (af:Nat),(((KH.new (KH.new H b (mpE d)) f (mkEnt [(.string p1_0)] 0)) af):(Option (Ent)))=none->∃ (ag:Nat) (ah:(List Value)),((knew (KH.new (KH.new H b (mpE d)) f (mkEnt [(.string p1_0)] 0)) ⟨1,16,true,3,0,0,[(0,1)],[(.string (ByteArray.mk #[]))]⟩ (.slice (some ⟨f,0,none⟩) 1 1)):(Option (Nat × (List Value))))=(some (ag,ah))/\∃ (o:(OA)) (p q:Nat) (h:KH),((kappend (KH.new (KH.new H b (mpE d)) f (mkEnt [(.string p1_0)] 0)) af ⟨1,16,true,3,0,0,[(0,1)],[(.string (ByteArray.mk #[]))]⟩ ac ad ae ag ah):(Option (Value × KH)))=(some (.slice o p q,h))/\(((.pointer (some ⟨p0b,p0o,none⟩)):Value)=(.pointer (some ⟨p0b,p0o,none⟩))/\True)/\(none:(Option Nat))=none/\(∃ (ai:(List Value)),((List.length ai):Nat)=(List.length [(Value.slice o p q)])/\ld h ⟨p0b,p0o+1,none⟩ ai)/\KH.may h p0b/\True/\Q (.int .i64 (n:Int)) (KH.put h ⟨p0b,p0o+1,none⟩ [(.slice o p q)]))/\((!true)=false->Q (.int .i64 aa) H))))
theorem fn63 (ok:EnvOk (env Try.prog)) {p0b p0o:Nat} {p1_0:ByteArray} {H:KH} {Q:PQ} (h:vc63 p0b p0o p1_0 H Q):Does (env Try.prog) 63 [.pointer (some ⟨p0b,p0o,none⟩),.agg #[.string p1_0]] H Q :=
 wFun_sound (W:=W63 Try.prog) ok.tt (blt_lt (by kernel_rfl)) (ff_of ok (by kernel_rfl) Try.func63) (Eq.mpr (by kernel_rfl) h)
def W45 (P:Program):WE:=⟨env P,tupT,[],mkTab [],45⟩
def vc45 (p0b p0o p1b p1o:Nat) (H:KH) (Q:PQ):Prop :=
 ((none:(Option Nat))=none/\∃ (d:(OA)) (a e:Nat),ld H ⟨p1b,p1o+2,none⟩ [(.slice d a e)]/\(decide ((a:Int)=0)=true->Q (.int .i64 (-1)) H)/\(decide ((a:Int)=0)=false->Does (env Try.prog) 62 [.pointer (some ⟨p0b,p0o,none⟩),.pointer (some ⟨p1b,p1o,none⟩)] H fun f g=>f=(.tuple #[])/\True/\(none:(Option Nat))=none/\Does (env Try.prog) 64 [(.pointer (some ⟨p1b,p1o,none⟩))] g fun h i=>∃ (b:ByteArray),h=(.agg #[(.string b)])/\(((.pointer (some ⟨p0b,p0o,none⟩)):Value)=(.pointer (some ⟨p0b,p0o,none⟩))/\((.pointer (some ⟨p0b,p0o,none⟩)):Value)=(.pointer (some ⟨p0b,p0o,none⟩))/\((none:(Option Nat))=none/\((.pointer (some ⟨p0b,p0o+257,none⟩)):Value)=(.pointer (some ⟨p0b,p0o+257,none⟩)))/\True)/\Does (env Try.prog) 63 [.pointer (some ⟨p0b,p0o+257,none⟩),.agg #[(.string b)]] i fun j k=>∃ (c:Int),j=(.int .i64 c)/\True/\Q (.int .i64 c) k))
theorem fn45 (ok:EnvOk (env Try.prog)) {p0b p0o p1b p1o:Nat} {H:KH} {Q:PQ} (h:vc45 p0b p0o p1b p1o H Q):Does (env Try.prog) 45 [.pointer (some ⟨p0b,p0o,none⟩),.pointer (some ⟨p1b,p1o,none⟩)] H Q :=
 wFun_sound (W:=W45 Try.prog) ok.tt (blt_lt (by kernel_rfl)) (ff_of ok (by kernel_rfl) Try.func45) (Eq.mpr (by kernel_rfl) h)
def W24 (P:Program):WE:=⟨env P,tupT,[],mkTab [],24⟩
def vc24 (p0:OA) (p0n p0c:Nat) (H:KH) (Q:PQ):Prop :=
 Does (env Try.prog) 41 [(.slice p0 p0n p0c)] H fun k l=>∃ (d:(Nat->Bool)),k=(.agg (List.toArray (boolsR 256 d)))/\Does (env Try.prog) 42 [] l fun m i=>∃ (e:Nat) (f:(OA)) (g h:Nat),m=(.agg #[.map (some e),.slice f g h])/\∀ (a:Nat),((i a):(Option (Ent)))=none->Does (env Try.prog) 43 [(.int .i64 (p0n:Int))] (KH.new i a (mkEnt (Array.toList (List.toArray ([(Value.slice p0 p0n p0c)]++(boolsR 256 d)++[Value.map (some e),.slice f g h]))) 0)) fun n o=>∃ (b c:Nat),n=(.pointer (some ⟨b,c,none⟩))/\Does (env Try.prog) 44 [.pointer (some ⟨b,c,none⟩),.int .i64 0] o fun p q=>p=(.tuple #[])/\Does (env Try.prog) 45 [.pointer (some ⟨a,0,none⟩),.pointer (some ⟨b,c,none⟩)] q fun r s=>∃ (j:Int),r=(.int .i64 j)/\Q (.pointer (some ⟨a,0,none⟩)) s
theorem fn24 (ok:EnvOk (env Try.prog)) {p0:OA} {p0n p0c:Nat} {H:KH} {Q:PQ} (h:vc24 p0 p0n p0c H Q):Does (env Try.prog) 24 [.slice p0 p0n p0c] H Q :=
 wFun_sound (W:=W24 Try.prog) ok.tt (blt_lt (by kernel_rfl)) (ff_of ok (by kernel_rfl) Try.func24) (Eq.mpr (by kernel_rfl) h)
def W25 (P:Program):WE:=⟨env P,tupT,[3],mkTab [(0,[.tmp 0 .ptr,.tmp 4 .ptr,.tmp 5 .slice,.tmp 6 .ptr,.tmp 7 (.int .i64),.tmp 15 (.int .i64)])],25⟩
def vc25_J0 (y1 y2:Int) (y3:KH) (y4 y5 y6:Nat) (y7:(Nat->(Nat->(Nat->(Nat->(Nat->(OA->(Nat->(Nat->(Nat->(Nat->(Int->(Int->(KH->Prop)))))))))))))) (y8 y9 y10 y11:Nat) (y12:OA) (y13 y14:Nat):Prop :=
 ((none:(Option Nat))=none/\((0:Int)<=y1/\y1<(256:Int))/\(none:(Option Nat))=none/\(∃ (a:(List Value)),((List.length a):Nat)=(List.length [(Value.int .i64 y2)])/\ld y3 ⟨y4,(y5+0)+((Int.toNat y1)*1),none⟩ a)/\KH.may y3 y4/\∃ (b:Nat),(b:Nat)<y6/\(none:(Option Nat))=none/\(none:(Option Nat))=none/\(none:(Option Nat))=none/\y7 b y8 y9 y10 y11 y12 y13 y14 y4 y5 y2 (IntKind.wrap .i64 (y1+1)) (KH.put y3 ⟨y4,(y5+0)+((Int.toNat y1)*1),none⟩ [(.int .i64 y2)]))
def vc25_L3 (y1 y2 y3:Nat) (y4:OA) (y5 y6 y7:Nat) (y8:KH) (y9:Int) (y10:PQ):Prop :=
 (∃ (g:(Nat->Nat->Nat->Nat->Nat->OA->Nat->Nat->Nat->Nat->Int->Int->KH->Prop)),(∃ (v:Nat),(none:(Option Nat))=none/\(none:(Option Nat))=none/\(none:(Option Nat))=none/\g v y1 y2 y3 0 y4 y5 y6 y7 0 (-1) 0 (KH.put (KH.new y8 y7 (mkEnt (List.replicate 257 (Value.int .i64 0)) 0)) ⟨y7,0,none⟩ (Array.toList (List.toArray ((List.replicate 256 (Value.int .i64 0))++[(Value.int .i64 y9)])))))/\∀ (n e f c d:Nat) (h:(OA)) (i j k l:Nat) (p a:Int),∀ (b:KH),g n e f c d h i j k l p a b->(decide (a<256)=true->(none:(Option Nat))=none/\((0:Int)<=a/\a<(256:Int))/\(none:(Option Nat))=none/\∃ (o:Bool),ld b ⟨e,(f+1)+((Int.toNat a)*1),none⟩ [(.bool o)]/\(o=true->Does (env Try.prog) 48 [.pointer (some ⟨e,f,none⟩),.slice h i j,.int .u8 (IntKind.wrap .u8 a)] b fun w x=>∃ (q r:Nat),w=(.pointer (some ⟨q,r,none⟩))/\Does (env Try.prog) 45 [.pointer (some ⟨e,f,none⟩),.pointer (some ⟨q,r,none⟩)] x fun y z=>∃ (s:Int),y=(.int .i64 s)/\vc25_J0 a s z k l n g e f c d h i j)/\(o=false->vc25_J0 a p b k l n g e f c d h i j))/\(decide (a<256)=false->∃ (m:(Nat->Int)),ld b ⟨k,l,none⟩ ((intsR .i64 257 m)++[])/\(∃ (t:(List Value)),((List.length t):Nat)=(List.length (Array.toList (List.toArray (intsR .i64 257 m))))/\ld b ⟨c,d,none⟩ t)/\KH.may b c/\∃ (u:(Nat->Int)),ld (KH.put b ⟨c,d,none⟩ (Array.toList (List.toArray (intsR .i64 257 m)))) ⟨c,d,none⟩ ((intsR .i64 257 u)++[])/\y10 (.agg (List.toArray (intsR .i64 257 u))) (KH.put b ⟨c,d,none⟩ (Array.toList (List.toArray (intsR .i64 257 m))))))
def vc25 (p0b p0o:Nat) (p1_0:ByteArray) (H:KH) (Q:PQ):Prop :=
 (∀ (c:Nat),((H c):(Option (Ent)))=none->Does (env Try.prog) 46 [(.agg #[(.string p1_0)])] (KH.new H c (mkEnt (List.replicate 257 (Value.int .i64 0)) 0)) fun i j=>∃ (d:(OA)) (e f:Nat),i=(.slice d e f)/\Does (env Try.prog) 47 [.pointer (some ⟨p0b,p0o,none⟩),.slice d e f] j fun k b=>∃ (g:Int),k=(.int .i64 g)/\∀ (a:Nat),((b a):(Option (Ent)))=none->(∃ (h:(List Value)),((List.length h):Nat)=(List.length (Array.toList (List.toArray ((List.replicate 256 (Value.int .i64 0))++[(Value.int .i64 g)]))))/\ld (KH.new b a (mkEnt (List.replicate 257 (Value.int .i64 0)) 0)) ⟨a,0,none⟩ h)/\KH.may (KH.new b a (mkEnt (List.replicate 257 (Value.int .i64 0)) 0)) a/\vc25_L3 p0b p0o c d e f a b g Q)
theorem fn25 (ok:EnvOk (env Try.prog)) {p0b p0o:Nat} {p1_0:ByteArray} {H:KH} {Q:PQ} (h:vc25 p0b p0o p1_0 H Q):Does (env Try.prog) 25 [.pointer (some ⟨p0b,p0o,none⟩),.agg #[.string p1_0]] H Q :=
 wFun_sound (W:=W25 Try.prog) ok.tt (blt_lt (by kernel_rfl)) (ff_of ok (by kernel_rfl) Try.func25) (Eq.mpr (by kernel_rfl) h)
def W14 (P:Program):WE:=⟨env P,tupT,[],mkTab [(0,[.tmp 3 .ptr,.tmp 4 .slice,.tmp 5 (.int .i64)])],14⟩
def vc14_L1 (y1 y2:Nat) (y3:KH) (y4:PQ):Prop :=
 (∃ (i:(Nat->Nat->Nat->OA->Nat->Nat->Int->KH->Prop)),(∃ (ab:Nat),(none:(Option Nat))=none/\i ab y1 y2 none 0 0 0 y3)/\∀ (o b c:Nat) (j:(OA)) (k l:Nat) (a:Int) (d:KH),i o b c j k l a d->(none:(Option Nat))=none/\(none:(Option Nat))=none/\∃ (ac:(OA)) (m ad:Nat),ld d ⟨b,(c+257)+1,none⟩ [(.slice ac m ad)]/\(decide (a<(m:Int))=true->(none:(Option Nat))=none/\(none:(Option Nat))=none/\∃ (p:(OA)) (q ae:Nat),ld d ⟨b,(c+257)+1,none⟩ [(.slice p q ae)]/\((0:Int)<=a/\a<(q:Int))/\∃ (r s:Nat),p=some ⟨r,s,none⟩/\∃ (t:ByteArray),ld d ⟨r,s+((Int.toNat a)*1),none⟩ [(.string t)]/\Does (env Try.prog) 25 [.pointer (some ⟨b,c,none⟩),.agg #[(.string t)]] d fun ah h=>∃ (f:(Nat->Int)),ah=(.agg (List.toArray (intsR .i64 257 f)))/\∀ (e:Nat),((h e):(Option (Ent)))=none->∀ (u:Nat),(((KH.new h e (mkEnt (intsR .i64 257 f) 0)) u):(Option (Ent)))=none->∃ (v:Nat) (w:(List Value)),((knew (KH.new h e (mkEnt (intsR .i64 257 f) 0)) ⟨257,2056,true,3,0,0,[(0,256),(256,1)],List.replicate 257 (Value.int .i64 0)⟩ (.slice (some ⟨e,0,none⟩) 1 1)):(Option (Nat × (List Value))))=(some (v,w))/\∃ (x:(OA)) (y z:Nat) (g:KH),((kappend (KH.new h e (mkEnt (intsR .i64 257 f) 0)) u ⟨257,2056,true,3,0,0,[(0,256),(256,1)],List.replicate 257 (Value.int .i64 0)⟩ j k l v w):(Option (Value × KH)))=(some (.slice x y z,g))/\(none:(Option Nat))=none/\(none:(Option Nat))=none/\∃ (af:(OA)) (n ag:Nat),ld g ⟨b,(c+257)+1,none⟩ [(.slice af n ag)]/\(decide ((300:Int)<(n:Int))=true->y4 (.slice none 0 0) g)/\(decide ((300:Int)<(n:Int))=false->∃ (aa:Nat),(aa:Nat)<o/\(none:(Option Nat))=none/\i aa b c x y z (IntKind.wrap .i64 (a+1)) g))/\(decide (a<(m:Int))=false->y4 (.slice j k l) d))
def vc14 (p0:OA) (p0n p0c:Nat) (H:KH) (Q:PQ):Prop :=
 ((decide ((p0n:Int)=0)=true->Q (.slice none 0 0) H)/\(decide ((p0n:Int)=0)=false->Does (env Try.prog) 24 [(.slice p0 p0n p0c)] H fun c d=>∃ (a b:Nat),c=(.pointer (some ⟨a,b,none⟩))/\vc14_L1 a b d Q))
theorem fn14 (ok:EnvOk (env Try.prog)) {p0:OA} {p0n p0c:Nat} {H:KH} {Q:PQ} (h:vc14 p0 p0n p0c H Q):Does (env Try.prog) 14 [.slice p0 p0n p0c] H Q :=
 wFun_sound (W:=W14 Try.prog) ok.tt (blt_lt (by kernel_rfl)) (ff_of ok (by kernel_rfl) Try.func14) (Eq.mpr (by kernel_rfl) h)
end Va
end Go.Proofs.Ytlgpleiobieniaa
