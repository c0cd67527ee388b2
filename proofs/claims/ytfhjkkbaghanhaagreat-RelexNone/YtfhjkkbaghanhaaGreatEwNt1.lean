import Derived.Test.YtfhjkkbaghanhaaGreatEwPt1
set_option linter.unusedVariables false
set_option linter.unusedSimpArgs false
namespace Go.Ew
open Go.Ev Go.Deep
inductive Mo (R:Nat→Nat→Prop):Nat→Nat→Prop where
 | none (i:Nat):Mo R i i
 | more (i k j:Nat) (h:R i k) (r:Mo R k j):Mo R i j
def Mt (s:ByteArray):Ptn→Nat→Nat→Prop
 | .cls L,i,j=>j=i+1∧i<s.size∧∃ r∈L,r.1≤byteAt s i∧byteAt s i≤r.2
 | .join a b,i,j=>∃ k,Mt s a i k∧Mt s b k j
 | .alt a b,i,j=>Mt s a i j∨Mt s b i j
 | .star a,i,j=>Mo (Mt s a) i j
 | .plus a,i,j=>∃ k,Mt s a i k∧Mo (Mt s a) k j
 | .may a,i,j=>i=j∨Mt s a i j
theorem Mo.le {R:Nat→Nat→Prop} (h:∀ i j,R i j→i≤j) {i j:Nat} (m:Mo R i j):i≤j:=by
 induction m with
 | none i=>exact Nat.le_refl _
 | more i k j h1 _ ih=>have:=h i k h1; omega
theorem Mt.le {s:ByteArray}:∀ (t:Ptn) (i j:Nat),Mt s t i j→i≤j
 | .cls L,i,j,h=>by have:=h.1; omega
 | .join a b,i,j,⟨k,h1,h2⟩=>by have:=Mt.le a i k h1; have:=Mt.le b k j h2; omega
 | .alt a b,i,j,h=>by
   rcases h with h | h
   ·exact Mt.le a i j h
   ·exact Mt.le b i j h
 | .star a,i,j,h=>Mo.le (Mt.le a) h
 | .plus a,i,j,⟨k,h1,h2⟩=>by have:=Mt.le a i k h1; have:=Mo.le (Mt.le a) h2; omega
 | .may a,i,j,h=>by
   rcases h with h | h
   ·omega
   ·exact Mt.le a i j h
theorem Mo.sz {R:Nat→Nat→Prop} {n:Nat} (h:∀ i j,R i j→i≤n→j≤n) {i j:Nat} (m:Mo R i j) (hi:i≤n):j≤n:=by
 induction m with
 | none i=>exact hi
 | more i k j h1 _ ih=>exact ih (h i k h1 hi)
theorem Mt.sz {s:ByteArray}:∀ (t:Ptn) (i j:Nat),Mt s t i j→i≤s.size→j≤s.size
 | .cls L,i,j,h,hi=>by have:=h.1; have:=h.2.1; omega
 | .join a b,i,j,⟨k,h1,h2⟩,hi=>Mt.sz b k j h2 (Mt.sz a i k h1 hi)
 | .alt a b,i,j,h,hi=>by
   rcases h with h | h
   ·exact Mt.sz a i j h hi
   ·exact Mt.sz b i j h hi
 | .star a,i,j,h,hi=>Mo.sz (Mt.sz a) h hi
 | .plus a,i,j,⟨k,h1,h2⟩,hi=>Mo.sz (Mt.sz a) h2 (Mt.sz a i k h1 hi)
 | .may a,i,j,h,hi=>by
   rcases h with h | h
   ·omega
   ·exact Mt.sz a i j h hi
def GoSt (S:List St) (s:ByteArray) (x i y j:Nat):Prop :=
 (j=i∧((y:Nat):Int)∈(stAt S x).free)∨(j=i+1∧i<s.size∧(stAt S x).lo≤byteAt s i∧byteAt s i≤(stAt S x).hi∧(stAt S x).next=(y:Nat))
inductive PWay (S:List St) (s:ByteArray):Nat→Nat→Nat→Nat→Nat→Prop where
 | here (x i:Nat):PWay S s 0 x i x i
 | on (n x i y j z k:Nat) (h:GoSt S s x i y j) (r:PWay S s n y j z k):PWay S s (n+1) x i z k
theorem PWay.app {S:List St} {s:ByteArray} {n m x i y j z k:Nat} (h:PWay S s n x i y j) (r:PWay S s m y j z k):PWay S s (n+m) x i z k:=by
 induction h with
 | here x i=>rw [Nat.zero_add]; exact r
 | on n x i y' j' y j h1 _ ih =>
   rw [show n+1+m=(n+m)+1 by omega]
   exact .on _ _ _ _ _ _ _ h1 (ih r)
theorem PWay.one {S:List St} {s:ByteArray} {x i y j:Nat} (h:GoSt S s x i y j):PWay S s 1 x i y j:=.on _ _ _ _ _ _ _ h (.here _ _)
theorem PWay.snoc {S:List St} {s:ByteArray} {n x i y j z k:Nat} (h:PWay S s n x i y j) (r:GoSt S s y j z k):PWay S s (n+1) x i z k:=h.app (.one r)
def Led (S:List St) (s:ByteArray) (x i y j:Nat):Prop:=∃ n,PWay S s n x i y j
theorem Led.app {S:List St} {s:ByteArray} {x i y j z k:Nat} (h:Led S s x i y j) (r:Led S s y j z k):Led S s x i z k:=by
 obtain ⟨n,h⟩:=h
 obtain ⟨m,r⟩:=r
 exact ⟨_,h.app r⟩
theorem Led.one {S:List St} {s:ByteArray} {x i y j:Nat} (h:GoSt S s x i y j):Led S s x i y j:=⟨_,.one h⟩
theorem Led.refl {S:List St} {s:ByteArray} (x i:Nat):Led S s x i x i:=⟨_,.here _ _⟩
def Laid (S l:List St) (n:Nat):Prop:=∀ k s,l[k]? = some s→S[n+k]? = some s
theorem Laid.left {S l m:List St} {n:Nat} (h:Laid S (l++m) n):Laid S l n:=fun k s hk=>h k s (by
 rw [List.getElem?_append_left]
 ·exact hk
 ·rcases Nat.lt_or_ge k l.length with q | q
  ·exact q
  ·rw [List.getElem?_eq_none q] at hk; cases hk)
theorem Laid.right {S l m:List St} {n:Nat} (h:Laid S (l++m) n):Laid S m (n+l.length):=fun k s hk=>by
 rw [Nat.add_assoc]
 exact h (l.length+k) s (by rw [List.getElem?_append_right (by omega),Nat.add_sub_cancel_left]; exact hk)
theorem Laid.at_ {S l:List St} {n:Nat} (h:Laid S l n) {k:Nat} {s:St} (hk:l[k]? = some s):stAt S (n+k)=s:=by
 unfold stAt; rw [h k s hk]; rfl
theorem Laid.cons {S l:List St} {s:St} {n:Nat} (h:Laid S (s :: l) n):stAt S n=s∧Laid S l (n+1):=by
 refine ⟨h.at_ (k:=0) rfl,fun k t hk=>?_⟩
 rw [show n+1+k=n+(k+1) by omega]
 exact h (k+1) t (by simpa using hk)
structure Blk (S:List St) (s:ByteArray) (e:Nat) (n len nx:Nat) (R:Nat→Nat→Prop):Prop where
 thru:∀ i j,R i j→Led S s e i nx j
 out:∀ m i y j,PWay S s m e i y j→(y<n∨n+len≤y)→∃ k m',m'≤m∧R i k∧PWay S s m' nx k y j
 in_:n≤e∧e<n+len
theorem PWay.first {S:List St} {s:ByteArray} {m x i y j:Nat} (h:PWay S s m x i y j) (hne:x≠y):∃ m' z k,m=m'+1∧GoSt S s x i z k∧PWay S s m' z k y j:=by
 cases h with
 | here=>exact absurd rfl hne
 | on n _ _ z k _ _ h1 h2=>exact ⟨n,z,k,rfl,h1,h2⟩
theorem Blk.mono {S:List St} {s:ByteArray} {e n len n' len' nx:Nat} {R:Nat→Nat→Prop} (h:Blk S s e n len nx R) (h1:n'≤n) (h2:n+len≤n'+len'):Blk S s e n' len' nx R :=
 ⟨h.thru,fun m i y j hw hy=>h.out m i y j hw (by omega),by have:=h.in_; omega⟩
end Go.Ew
set_option linter.unusedVariables false
set_option linter.unusedSimpArgs false
namespace Go.Ew
open Go.Ev Go.Deep
theorem addS_mem {N:Nat} {m:List Nat} {x:Int} {y:Nat}:y∈addS N m x↔y∈m∨(x=(y:Nat)∧y<N):=by
 unfold addS
 split
 ·constructor
  ·exact .inl
  ·rintro (h | ⟨h,_⟩)
   ·exact h
   ·omega
 split
 ·constructor
  ·exact .inl
  ·rintro (h | ⟨h,_⟩)
   ·exact h
   ·omega
 split
 ·rename_i h1 h2 h3
  constructor
  ·exact .inl
  ·rintro (h | ⟨h,_⟩)
   ·exact h
   ·have:x.toNat=y:=by omega
    rw [← this]; exact h3
 ·rename_i h1 h2 h3
  rw [List.mem_append,List.mem_singleton]
  constructor
  ·rintro (h | h)
   ·exact .inl h
   ·exact .inr ⟨by omega,by omega⟩
  ·rintro (h | ⟨h,_⟩)
   ·exact .inl h
   ·exact .inr (by omega)
structure Fit (N:Nat) (m:List Nat):Prop where
 nod:m.Nodup
 lt:∀ x∈m,x<N
theorem addS_fit {N:Nat} {m:List Nat} {x:Int} (h:Fit N m):Fit N (addS N m x):=by
 refine ⟨?_,fun y hy=>?_⟩
 ·unfold addS
  split
  ·exact h.nod
  split
  ·exact h.nod
  split
  ·exact h.nod
  ·rename_i h3
   rw [List.nodup_append]
   exact ⟨h.nod,by simp,fun a z1 b z2 z3=>by
    have z2:b=x.toNat:=by simpa using z2
    exact h3 (by rw [← z2,← z3]; exact z1)⟩
 ·rcases addS_mem.1 hy with q | q
  ·exact h.lt y q
  ·exact q.2
theorem addF_mem {N:Nat}:∀ (f:List Int) (m:List Nat) (y:Nat),y∈f.foldl (addS N) m↔y∈m∨(((y:Nat):Int)∈f∧y<N)
 | [],m,y=>by simp
 | x :: f,m,y=>by
   rw [List.foldl_cons,addF_mem f,addS_mem,List.mem_cons]
   constructor
   ·rintro ((h | h) | h)
    ·exact .inl h
    ·exact .inr ⟨.inl h.1.symm,h.2⟩
    ·exact .inr ⟨.inr h.1,h.2⟩
   ·rintro (h | ⟨h | h,h2⟩)
    ·exact .inl (.inl h)
    ·exact .inl (.inr ⟨h.symm,h2⟩)
    ·exact .inr ⟨h,h2⟩
theorem addF_fit {N:Nat}:∀ (f:List Int) (m:List Nat),Fit N m→Fit N (f.foldl (addS N) m)
 | [],m,h=>h
 | x :: f,m,h=>addF_fit f _ (addS_fit h)
theorem spM_spec {S:List St}:∀ (f i:Nat) (m:List Nat),Fit S.length m→i≤m.length→S.length+1-i≤f→(∀ k x y,k<i→m[k]? = some x→((y:Nat):Int)∈(stAt S x).free→y<S.length→y∈m)→
 Fit S.length (spM S f i m)∧(∀ x∈m,x∈spM S f i m)∧(∀ x y,x∈spM S f i m→((y:Nat):Int)∈(stAt S x).free→y<S.length→y∈spM S f i m)∧
 ∀ P:Nat→Prop,(∀ x∈m,P x)→(∀ x y,P x→((y:Nat):Int)∈(stAt S x).free→y<S.length→P y)→∀ z∈spM S f i m,P z:=by
 intro f
 induction f with
 | zero =>
   intro i m hf hi hfu
   have:=nodup_le _ m hf.nod hf.lt
   omega
 | succ f ih =>
   intro i m hf hi hfu hcl
   rw [spM]
   cases hm:m[i]? with
   | none =>
     have hge:m.length≤i:=by
      rcases Nat.lt_or_ge i m.length with q | q
      ·simp [q] at hm
      ·exact q
     refine ⟨hf,fun x hx=>hx,fun x y hx hy hyl=>?_,fun P h1 _ z hz=>h1 z hz⟩
     obtain ⟨k,hk⟩:=List.getElem?_of_mem hx
     have hkl:k<m.length:=by
      rcases Nat.lt_or_ge k m.length with q | q
      ·exact q
      ·rw [List.getElem?_eq_none q] at hk; cases hk
     exact hcl k x y (by omega) hk hy hyl
   | some x =>
     have hil:i<m.length:=by
      rcases Nat.lt_or_ge i m.length with q | q
      ·exact q
      ·rw [List.getElem?_eq_none q] at hm; cases hm
     obtain ⟨r,hr⟩:=addF_grow (N:=S.length) (stAt S x).free m
     obtain ⟨g1,g2,g3,g4⟩:=ih (i+1) ((stAt S x).free.foldl (addS S.length) m) (addF_fit _ _ hf) (by rw [hr,List.length_append]; omega) (by omega) (fun k z y hk hz hy hyl=>by
      rw [addF_mem]
      by_cases hki:k=i
      ·subst hki
       rw [hr,List.getElem?_append_left hil,hm] at hz
       cases hz
       exact .inr ⟨hy,hyl⟩
      ·rw [hr,List.getElem?_append_left (by omega)] at hz
       exact .inl (hcl k z y (by omega) hz hy hyl))
     refine ⟨g1,fun z hz=>g2 z ((addF_mem _ _ _).2 (.inl hz)),g3,fun P h1 h2 z hz=>g4 P (fun w hw=>?_) h2 z hz⟩
     rcases (addF_mem _ _ _).1 hw with q | q
     ·exact h1 w q
     ·exact h2 x w (h1 x (List.mem_of_getElem? hm)) q.1 q.2
theorem clM_spec {S:List St} {m:List Nat} (h:Fit S.length m):Fit S.length (clM S m)∧(∀ x∈m,x∈clM S m)∧(∀ x y,x∈clM S m→((y:Nat):Int)∈(stAt S x).free→y<S.length→y∈clM S m)∧
 ∀ P:Nat→Prop,(∀ x∈m,P x)→(∀ x y,P x→((y:Nat):Int)∈(stAt S x).free→y<S.length→P y)→∀ z∈clM S m,P z :=
 spM_spec (S.length+1) 0 m h (by omega) (by omega) (fun k x y hk=>by omega)
theorem moveF_mem {S:List St} {c:Int}:∀ (m t:List Nat) (y:Nat),y∈m.foldl (moveM S c) t↔y∈t∨(∃ x∈m,(stAt S x).lo≤c∧c≤(stAt S x).hi∧(stAt S x).next=(y:Nat))∧y<S.length∨y∈t
 | [],t,y=>by simp
 | x :: m,t,y=>by
   rw [List.foldl_cons,moveF_mem m]
   have hm:y∈moveM S c t x↔y∈t∨(((stAt S x).lo≤c∧c≤(stAt S x).hi∧(stAt S x).next=(y:Nat))∧y<S.length):=by
    unfold moveM
    split
    ·rename_i h
     rw [addS_mem]
     constructor
     ·rintro (q | ⟨q1,q2⟩)
      ·exact .inl q
      ·exact .inr ⟨⟨h.1,h.2,q1⟩,q2⟩
     ·rintro (q | ⟨⟨_,_,q1⟩,q2⟩)
      ·exact .inl q
      ·exact .inr ⟨q1,q2⟩
    ·rename_i h
     constructor
     ·exact .inl
     ·rintro (q | ⟨⟨q1,q2,_⟩,_⟩)
      ·exact q
      ·exact absurd ⟨q1,q2⟩ h
   rw [hm]
   constructor
   ·rintro ((q | q) | ⟨⟨w,hw,q⟩,q2⟩ | (q | q))
    ·exact .inl q
    ·exact .inr (.inl ⟨⟨x,by simp,q.1⟩,q.2⟩)
    ·exact .inr (.inl ⟨⟨w,by simp [hw],q⟩,q2⟩)
    ·exact .inl q
    ·exact .inr (.inl ⟨⟨x,by simp,q.1⟩,q.2⟩)
   ·rintro (q | ⟨⟨w,hw,q⟩,q2⟩ | q)
    ·exact .inl (.inl q)
    ·rcases List.mem_cons.1 hw with z | z
     ·subst z; exact .inl (.inr ⟨q,q2⟩)
     ·exact .inr (.inl ⟨⟨w,z,q⟩,q2⟩)
    ·exact .inl (.inl q)
theorem moveF_fit {S:List St} {c:Int}:∀ (m t:List Nat),Fit S.length t→Fit S.length (m.foldl (moveM S c) t)
 | [],t,h=>h
 | x :: m,t,h=>moveF_fit m _ (by
   unfold moveM
   split
   ·exact addS_fit h
   ·exact h)
theorem fit_nil (N:Nat):Fit N []:=⟨List.nodup_nil,fun x hx=>by cases hx⟩
theorem least_spec (S:List St):∀ (m:List Nat) (l:Int),(m.foldl (leastM S) l=0↔l=0∧∀ x∈m,(stAt S x).e=0)∧(m.foldl (leastM S) l≠0→(m.foldl (leastM S) l=l∨∃ x∈m,(stAt S x).e=m.foldl (leastM S) l)∧(l≠0→m.foldl (leastM S) l≤l)∧∀ x∈m,(stAt S x).e≠0→m.foldl (leastM S) l≤(stAt S x).e)
 | [],l=>⟨by simp,fun h=>⟨.inl rfl,fun _=>Int.le_refl _,fun x hx=>by cases hx⟩⟩
 | x :: m,l=>by
   obtain ⟨h1,h2⟩:=least_spec S m (leastM S l x)
   rw [List.foldl_cons]
   have hk:(leastM S l x=0↔l=0∧(stAt S x).e=0)∧(leastM S l x=l∨leastM S l x=(stAt S x).e)∧(l≠0→leastM S l x≤l)∧((stAt S x).e≠0→leastM S l x≤(stAt S x).e):=by
    unfold leastM
    split
    ·split
     ·rename_i q1 q2
      exact ⟨⟨fun q=>absurd q q1,fun q=>absurd q.2 q1⟩,.inr rfl,fun q=>absurd q2 q,fun _=>Int.le_refl _⟩
     split
     ·rename_i q1 q2 q3
      exact ⟨⟨fun q=>absurd q q1,fun q=>absurd q.2 q1⟩,.inr rfl,fun q=>by omega,fun _=>Int.le_refl _⟩
     ·rename_i q1 q2 q3
      exact ⟨⟨fun q=>absurd q q2,fun q=>absurd q.1 q2⟩,.inl rfl,fun q=>Int.le_refl _,fun _=>by omega⟩
    ·rename_i q1
     have q1:(stAt S x).e=0:=by simpa using q1
     exact ⟨⟨fun q=>⟨q,q1⟩,fun q=>q.1⟩,.inl rfl,fun q=>Int.le_refl _,fun q=>absurd q1 q⟩
   obtain ⟨k1,k2,k3,k4⟩:=hk
   refine ⟨?_,fun hne=>?_⟩
   ·rw [h1,k1]
    constructor
    ·rintro ⟨⟨q1,q2⟩,q3⟩
     exact ⟨q1,fun y hy=>by
      rcases List.mem_cons.1 hy with z | z
      ·rw [z]; exact q2
      ·exact q3 y z⟩
    ·rintro ⟨q1,q2⟩
     exact ⟨⟨q1,q2 x (by simp)⟩,fun y hy=>q2 y (by simp [hy])⟩
   ·obtain ⟨g1,g2,g3⟩:=h2 hne
    refine ⟨?_,fun hl=>?_,fun y hy hye=>?_⟩
    ·rcases g1 with q | ⟨y,hy,q⟩
     ·rcases k2 with z | z
      ·exact .inl (by rw [q,z])
      ·exact .inr ⟨x,by simp,by rw [q,z]⟩
     ·exact .inr ⟨y,by simp [hy],q⟩
    ·have:=k3 hl
     by_cases hz:leastM S l x=0
     ·exact absurd (k1.1 hz).1 hl
     ·have:=g2 hz; omega
    ·rcases List.mem_cons.1 hy with z | z
     ·subst z
      have:=k4 hye
      by_cases hz:leastM S l y=0
      ·exact absurd (k1.1 hz).2 hye
      ·have:=g2 hz; omega
     ·exact g3 y z hye
theorem endM_spec (S:List St) (m:List Nat):(endM S m=0↔∀ x∈m,(stAt S x).e=0)∧(endM S m≠0→(∃ x∈m,(stAt S x).e=endM S m)∧∀ x∈m,(stAt S x).e≠0→endM S m≤(stAt S x).e):=by
 obtain ⟨h1,h2⟩:=least_spec S m 0
 refine ⟨by unfold endM; rw [h1]; simp,fun hne=>?_⟩
 obtain ⟨g1,_,g3⟩:=h2 hne
 refine ⟨?_,g3⟩
 rcases g1 with q | q
 ·exact absurd q hne
 ·exact q
def Has (pats:List (List It)) (s:ByteArray) (k j:Nat):Prop:=∃ l,pats[k]? = some l∧Mt s (treeD l) 0 j
inductive LgSpec (M:Nat→Nat→Prop) (n:Nat):Int × Int × Bool→Prop where
 | no (h:∀ k j,1≤j→j≤n→¬ M k j):LgSpec M n (0,0,false)
 | yes (k j:Nat) (h1:1≤j) (h2:j≤n) (h3:M k j) (h4:∀ k' j',j<j'→j'≤n→¬ M k' j') (h5:∀ k',k'<k→¬ M k' j):LgSpec M n (((k:Nat):Int),((j:Nat):Int),true)
theorem LgSpec.same {M:Nat→Nat→Prop} {n:Nat} {r r':Int × Int × Bool} (h:LgSpec M n r) (h':LgSpec M n r'):r=r':=by
 cases h with
 | no h =>
   cases h' with
   | no h'=>rfl
   | yes k j h1 h2 h3=>exact absurd h3 (h k j h1 h2)
 | yes k j h1 h2 h3 h4 h5 =>
   cases h' with
   | no h'=>exact absurd h3 (h' k j h1 h2)
   | yes k' j' g1 g2 g3 g4 g5 =>
     have hj:j=j':=by
      rcases Nat.lt_trichotomy j j' with q | q | q
      ·exact absurd g3 (h4 k' j' q g2)
      ·exact q
      ·exact absurd h3 (g4 k j q h2)
     subst hj
     have hk:k=k':=by
      rcases Nat.lt_trichotomy k k' with q | q | q
      ·exact absurd h3 (g5 k q)
      ·exact q
      ·exact absurd g3 (h5 k' q)
     subst hk
     rfl
end Go.Ew
set_option linter.unusedVariables false
set_option linter.unusedSimpArgs false
namespace Go.Ew
open Go.Ev Go.Deep
def SameS (a b:List Nat):Prop:=∀ x,x∈a↔x∈b
theorem SameS.nil {a b:List Nat} (h:SameS a b):a=[]↔b=[]:=by
 constructor
 ·intro q
  subst q
  cases b with
  | nil=>rfl
  | cons x r=>exact absurd ((h x).2 (by simp)) (by simp)
 ·intro q
  subst q
  cases a with
  | nil=>rfl
  | cons x r=>exact absurd ((h x).1 (by simp)) (by simp)
theorem SameS.symm {a b:List Nat} (h:SameS a b):SameS b a:=fun x=>(h x).symm
theorem SameS.trans {a b c:List Nat} (h:SameS a b) (g:SameS b c):SameS a c:=fun x=>(h x).trans (g x)
theorem move_same {S:List St} {c:Int} {a b:List Nat} (h:SameS a b):SameS (a.foldl (moveM S c) []) (b.foldl (moveM S c) []):=fun y=>by
 rw [moveF_mem,moveF_mem]
 constructor
 ·rintro (q | ⟨⟨x,z1,z2⟩,z3⟩ | q)
  ·cases q
  ·exact .inr (.inl ⟨⟨x,(h x).1 z1,z2⟩,z3⟩)
  ·cases q
 ·rintro (q | ⟨⟨x,z1,z2⟩,z3⟩ | q)
  ·cases q
  ·exact .inr (.inl ⟨⟨x,(h x).2 z1,z2⟩,z3⟩)
  ·cases q
theorem clM_same {S:List St} {a b:List Nat} (ha:Fit S.length a) (hb:Fit S.length b) (h:SameS a b):SameS (clM S a) (clM S b):=by
 obtain ⟨_,a1,a2,a3⟩:=clM_spec ha
 obtain ⟨_,b1,b2,b3⟩:=clM_spec hb
 intro z
 constructor
 ·exact a3 (fun z=>z∈clM S b) (fun x hx=>b1 x ((h x).1 hx)) (fun x y hx=>b2 x y hx) z
 ·exact b3 (fun z=>z∈clM S a) (fun x hx=>a1 x ((h x).2 hx)) (fun x y hx=>a2 x y hx) z
theorem stepM_same {S:List St} {c:Int} {a b:List Nat} (h:SameS a b):SameS (stepM S c a) (stepM S c b) :=
 clM_same (moveF_fit a [] (fit_nil _)) (moveF_fit b [] (fit_nil _)) (move_same h)
theorem endM_same {S:List St} {a b:List Nat} (h:SameS a b):endM S a=endM S b:=by
 obtain ⟨a1,a2⟩:=endM_spec S a
 obtain ⟨b1,b2⟩:=endM_spec S b
 by_cases z:endM S a=0
 ·rw [z,b1.2 fun x hx=>a1.1 z x ((h x).2 hx)]
 ·have z':endM S b≠0:=fun q=>z (a1.2 fun x hx=>b1.1 q x ((h x).1 hx))
  obtain ⟨⟨x,x1,x2⟩,x3⟩:=a2 z
  obtain ⟨⟨y,y1,y2⟩,y3⟩:=b2 z'
  have q1:=x3 y ((h y).2 y1) (by rw [y2]; exact z')
  have q2:=y3 x ((h x).1 x1) (by rw [x2]; exact z)
  rw [y2] at q1; rw [x2] at q2
  omega
theorem clM_nil {S:List St}:clM S []=[]:=by
 unfold clM
 simp [spM]
theorem step_nil {S:List St} {c:Int} {m:List Nat}:stepM S c m=[]↔m.foldl (moveM S c) []=[]:=by
 constructor
 ·intro h
  cases hq:m.foldl (moveM S c) [] with
  | nil=>rfl
  | cons x r =>
    exfalso
    have:=(clM_spec (moveF_fit (c:=c) m [] (fit_nil S.length))).2.1 x (by rw [hq]; simp)
    have h:clM S (m.foldl (moveM S c) [])=[]:=h
    rw [h] at this
    cases this
 ·intro h
  unfold stepM
  rw [h,clM_nil]
structure RowsOk (S:List St) (keys:List (List Nat)) (g:Nat→Int):Prop where
 pos:0<keys.length
 beg:∀ K,keys[0]? = some K→SameS K (begM S)
 fin:∀ k K,keys[k]? = some K→g (k*257+256)=endM S K
 non:∀ k K (c:Nat),keys[k]? = some K→c<256→stepM S (c:Int) K=[]→g (k*257+c)<0
 nxt:∀ k K (c:Nat),keys[k]? = some K→c<256→stepM S (c:Int) K≠[]→∃ k' K',g (k*257+c)=((k':Nat):Int)∧keys[k']? = some K'∧SameS K' (stepM S (c:Int) K)
end Go.Ew
set_option linter.unusedVariables false
set_option linter.unusedSimpArgs false
namespace Go.Ew
open Go.Ev Go.Deep
def bitB (x:Int) (k:Nat):Bool:=decide (andI .u8 (Int.fdiv x (2 ^ (min k (IntKind.bits .u8)))) 1=1)
def setB (x:Int) (k:Nat):Int:=orI .u8 x (IntKind.wrap .u8 (1*(2 ^ (min k (IntKind.bits .u8)))))
theorem bit_zero:∀ j:Fin 8,bitB 0 j.1=false:=by decide +kernel
theorem bit_set:∀ (k j:Fin 8) (x:Fin 256),0≤setB (x.1:Nat) k.1∧setB (x.1:Nat) k.1≤255∧bitB (setB (x.1:Nat) k.1) j.1=(bitB (x.1:Nat) j.1||j.1 == k.1):=by decide +kernel
theorem bit_sum:∀ x:Fin 256,((x.1:Nat):Int)=(List.range 8).foldl (fun a j=>a+if bitB (x.1:Nat) j then 2 ^ j else 0) 0:=by decide +kernel
theorem bit_ext {x y:Int} (hx:0≤x∧x≤255) (hy:0≤y∧y≤255) (h:∀ j,j<8→bitB x j=bitB y j):x=y:=by
 have h1:=bit_sum ⟨x.toNat,by omega⟩
 have h2:=bit_sum ⟨y.toNat,by omega⟩
 have e1:((x.toNat:Nat):Int)=x:=by omega
 have e2:((y.toNat:Nat):Int)=y:=by omega
 simp only [e1,e2] at h1 h2
 rw [h1,h2]
 have:(List.range 8)=[0,1,2,3,4,5,6,7]:=rfl
 rw [this]
 simp only [List.foldl,h 0 (by omega),h 1 (by omega),h 2 (by omega),h 3 (by omega),h 4 (by omega),h 5 (by omega),h 6 (by omega),h 7 (by omega)]
structure Bits (N:Nat) (bs:List Int) (m:List Nat):Prop where
 len:bs.length=N/8+1
 rng:∀ b∈bs,0≤b∧b≤255
 is:∀ (i j:Nat) (b:Int),bs[i]? = some b→j<8→(bitB b j=true↔i*8+j∈m)
theorem Bits.nil (N:Nat):Bits N (List.replicate (N/8+1) 0) []:=⟨by simp,fun b hb=>by rw [List.eq_of_mem_replicate hb]; omega,fun i j b hb hj=>by
 rw [List.getElem?_replicate] at hb
 split at hb
 ·cases hb
  have:=bit_zero ⟨j,hj⟩
  simp only at this
  rw [this]
  simp
 ·cases hb⟩
theorem Bits.add {N:Nat} {bs:List Int} {m:List Nat} (h:Bits N bs m) {x:Nat} (hx:x<N) {b:Int} (hb:bs[x/8]? = some b):Bits N (bs.set (x/8) (setB b (x%8))) (m++[x]):=by
 have hl:x/8<bs.length:=by rw [h.len]; omega
 have hbr:=h.rng b (List.mem_of_getElem? hb)
 have key:∀ j,j<8→0≤setB b (x%8)∧setB b (x%8)≤255∧bitB (setB b (x%8)) j=(bitB b j||j == x%8):=fun j hj=>by
  have:=bit_set ⟨x%8,by omega⟩ ⟨j,hj⟩ ⟨b.toNat,by omega⟩
  have e:((b.toNat:Nat):Int)=b:=by omega
  simp only [e] at this
  exact this
 refine ⟨by rw [List.length_set]; exact h.len,fun c hc=>?_,fun i j c hc hj=>?_⟩
 ·rcases List.mem_or_eq_of_mem_set hc with z | z
  ·exact h.rng c z
  ·rw [z]; exact ⟨(key 0 (by omega)).1,(key 0 (by omega)).2.1⟩
 ·by_cases hi:i=x/8
  ·subst hi
   rw [List.getElem?_set_self hl] at hc
   cases hc
   rw [(key j hj).2.2,Bool.or_eq_true,h.is _ j b hb hj,List.mem_append,List.mem_singleton,beq_iff_eq]
   constructor
   ·rintro (z | z)
    ·exact .inl z
    ·exact .inr (by omega)
   ·rintro (z | z)
    ·exact .inl z
    ·exact .inr (by omega)
  ·rw [List.getElem?_set_ne (fun z=>hi z.symm)] at hc
   rw [h.is i j c hc hj,List.mem_append,List.mem_singleton]
   constructor
   ·exact .inl
   ·rintro (z | z)
    ·exact z
    ·exfalso; exact hi (by omega)
theorem Bits.ext {N:Nat} {bs cs:List Int} {m n:List Nat} (h:Bits N bs m) (g:Bits N cs n) (hs:SameS m n):bs=cs:=by
 apply List.ext_getElem?
 intro i
 by_cases hi:i<bs.length
 ·have hc:i<cs.length:=by rw [g.len,← h.len]; exact hi
  rw [List.getElem?_eq_getElem hi,List.getElem?_eq_getElem hc]
  congr 1
  refine bit_ext (h.rng _ (List.getElem_mem hi)) (g.rng _ (List.getElem_mem hc)) fun j hj=>?_
  have h1:=h.is i j _ (List.getElem?_eq_getElem hi) hj
  have g1:=g.is i j _ (List.getElem?_eq_getElem hc) hj
  rw [Bool.eq_iff_iff,h1,g1]
  exact hs _
 ·rw [List.getElem?_eq_none (by omega),List.getElem?_eq_none (by rw [g.len,← h.len]; omega)]
theorem Bits.same {N:Nat} {bs:List Int} {m n:List Nat} (h:Bits N bs m) (g:Bits N bs n) (hm:∀ x∈m,x<N) (hn:∀ x∈n,x<N):SameS m n:=fun x=>by
 by_cases hx:x<N
 ·have hi:x/8<bs.length:=by rw [h.len]; omega
  have e:x/8*8+x%8=x:=by omega
  have h1:=h.is (x/8) (x%8) _ (List.getElem?_eq_getElem hi) (by omega)
  have g1:=g.is (x/8) (x%8) _ (List.getElem?_eq_getElem hi) (by omega)
  rw [e] at h1 g1
  exact h1.symm.trans g1
 ·exact ⟨fun z=>absurd (hm x z) hx,fun z=>absurd (hn x z) hx⟩
def membB:List Int→Nat→List Nat
 | [],_=>[]
 | b :: r,i=>((List.range 8).filter fun j=>bitB b j).map (fun j=>i*8+j)++membB r (i+1)
theorem memb_mem:∀ (bs:List Int) (i x:Nat),x∈membB bs i↔∃ k b,bs[k]? = some b∧x/8=i+k∧bitB b (x%8)=true
 | [],i,x=>by simp [membB]
 | b :: r,i,x=>by
   rw [membB,List.mem_append,memb_mem r (i+1) x,List.mem_map]
   constructor
   ·rintro (⟨j,z1,z2⟩ | ⟨k,c,z1,z2,z3⟩)
    ·have z1:=List.mem_filter.1 z1
     have hj:j<8:=List.mem_range.1 z1.1
     refine ⟨0,b,rfl,by omega,?_⟩
     have:x%8=j:=by omega
     rw [this]; exact z1.2
    ·exact ⟨k+1,c,by simpa using z1,by omega,z3⟩
   ·rintro ⟨k,c,z1,z2,z3⟩
    match k,z1 with
    | 0,z1 =>
      have:b=c:=by simpa using z1
      subst this
      exact .inl ⟨x%8,List.mem_filter.2 ⟨List.mem_range.2 (by omega),z3⟩,by omega⟩
    | k+1,z1=>exact .inr ⟨k,c,by simpa using z1,by omega,z3⟩
theorem Bits.memb {N:Nat} {bs:List Int} {m:List Nat} (h:Bits N bs m) (hm:∀ x∈m,x<N):SameS (membB bs 0) m:=fun x=>by
 rw [memb_mem]
 constructor
 ·rintro ⟨k,b,z1,z2,z3⟩
  have:=(h.is k (x%8) b z1 (by omega)).1 z3
  have e:k*8+x%8=x:=by omega
  rwa [e] at this
 ·intro z
  have hx:=hm x z
  have hi:x/8<bs.length:=by rw [h.len]; omega
  have e:x/8*8+x%8=x:=by omega
  exact ⟨x/8,bs[x/8],List.getElem?_eq_getElem hi,by omega,(h.is _ _ _ (List.getElem?_eq_getElem hi) (by omega)).2 (by rw [e]; exact z)⟩
end Go.Ew
