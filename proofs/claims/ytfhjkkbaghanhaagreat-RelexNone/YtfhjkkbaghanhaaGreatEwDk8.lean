import Derived.Test.YtfhjkkbaghanhaaGreatEwDk5
import Derived.Test.YtfhjkkbaghanhaaGreatEwNh2
set_option linter.unusedVariables false
set_option linter.unusedSimpArgs false
namespace Go.Ew
open Go.Ev Go.Deep
def clsN:List It→Nat
 | []=>0
 | i :: l=>(if i.1=1 then 1 else 0)+clsN l
theorem clsN_app:∀ a b:List It,clsN (a++b)=clsN a+clsN b
 | [],b=>by simp [clsN]
 | i :: a,b=>by
   simp only [List.cons_append,clsN,clsN_app a b]
   omega
def clsAll:List (List It)→Nat
 | []=>0
 | l :: r=>clsN l+clsAll r
structure StN (Z:List Int) (M:Int) (s:St):Prop where
 lo:0≤s.lo∧s.lo≤255
 hi:0≤s.hi∧s.hi≤255
 nx:s.next = -1∨s.next∈Z
 e:0≤s.e∧s.e≤M
theorem StN.mono {Z Z':List Int} {M M':Int} {s:St} (h:StN Z M s) (hz:∀ x∈Z,x∈Z') (hm:M≤M'):StN Z' M' s:=⟨h.lo,h.hi,h.nx.imp id (hz _),h.e.1,by have:=h.e.2; omega⟩
theorem fork_ok (f:List Int) (Z:List Int) {M:Int} (hM:0≤M):StN Z M (forkS f):=⟨⟨by simp [forkS],by simp [forkS]⟩,⟨by simp [forkS],by simp [forkS]⟩,.inl rfl,⟨by simp [forkS],by simpa [forkS] using hM⟩⟩
theorem cls_ok {r:Rg} (h:okRg r) (nx:Nat):StN [(nx:Int)] 0 (clsS5 nx r):=by
 obtain ⟨h1,h2,h3⟩:=h
 exact ⟨⟨by simp only [clsS5]; omega,by simp only [clsS5]; omega⟩,⟨by simp only [clsS5]; omega,by simp only [clsS5]; omega⟩,.inr (by simp [clsS5]),⟨by simp [clsS5],by simp [clsS5]⟩⟩
theorem bld_ok:∀ (t:Ptn) (nx n:Nat),t.okT→∃ Z:List Int,Z.length≤clsN t.items∧∀ s∈(bld t nx n).1,StN Z 0 s
 | .cls L,nx,n,h=>by
   refine ⟨[(nx:Int)],by simp [Ptn.items,clsN],fun s hs=>?_⟩
   simp only [bld] at hs
   split at hs
   ·obtain ⟨r,hr,rfl⟩:=List.mem_map.1 hs; exact cls_ok (h.2 r hr) nx
   ·rcases List.mem_append.1 hs with hs | hs
    ·obtain ⟨r,hr,rfl⟩:=List.mem_map.1 hs; exact cls_ok (h.2 r hr) nx
    ·rw [List.mem_singleton.1 hs]; exact fork_ok _ _ (Int.le_refl _)
 | .join a b,nx,n,h=>by
   obtain ⟨Z1,z1,z2⟩:=bld_ok b nx n h.2
   obtain ⟨Z2,z3,z4⟩:=bld_ok a (bld b nx n).2 (n+(bld b nx n).1.length) h.1
   refine ⟨Z1++Z2,by simp only [Ptn.items,clsN_app,List.length_append]; omega,fun s hs=>?_⟩
   simp only [bld] at hs
   rcases List.mem_append.1 hs with hs | hs
   ·exact (z2 s hs).mono (fun x hx=>List.mem_append_left _ hx) (Int.le_refl _)
   ·exact (z4 s hs).mono (fun x hx=>List.mem_append_right _ hx) (Int.le_refl _)
 | .alt a b,nx,n,h=>by
   obtain ⟨Z1,z1,z2⟩:=bld_ok a nx n h.1
   obtain ⟨Z2,z3,z4⟩:=bld_ok b nx (n+(bld a nx n).1.length) h.2
   refine ⟨Z1++Z2,by simp only [Ptn.items,clsN_app,List.length_append]; omega,fun s hs=>?_⟩
   simp only [bld] at hs
   rcases List.mem_append.1 hs with hs | hs
   ·rcases List.mem_append.1 hs with hs | hs
    ·exact (z2 s hs).mono (fun x hx=>List.mem_append_left _ hx) (Int.le_refl _)
    ·exact (z4 s hs).mono (fun x hx=>List.mem_append_right _ hx) (Int.le_refl _)
   ·rw [List.mem_singleton.1 hs]; exact fork_ok _ _ (Int.le_refl _)
 | .star a,nx,n,h=>by
   obtain ⟨Z1,z1,z2⟩:=bld_ok a n (n+1) h
   refine ⟨Z1,by simp only [Ptn.items,clsN_app]; omega,fun s hs=>?_⟩
   simp only [bld] at hs
   rcases List.mem_cons.1 hs with hs | hs
   ·rw [hs]; exact fork_ok _ _ (Int.le_refl _)
   ·exact z2 s hs
 | .plus a,nx,n,h=>by
   obtain ⟨Z1,z1,z2⟩:=bld_ok a n (n+1) h
   refine ⟨Z1,by simp only [Ptn.items,clsN_app]; omega,fun s hs=>?_⟩
   simp only [bld] at hs
   rcases List.mem_cons.1 hs with hs | hs
   ·rw [hs]; exact fork_ok _ _ (Int.le_refl _)
   ·exact z2 s hs
 | .may a,nx,n,h=>by
   obtain ⟨Z1,z1,z2⟩:=bld_ok a nx n h
   refine ⟨Z1,by simp only [Ptn.items,clsN_app]; omega,fun s hs=>?_⟩
   simp only [bld] at hs
   rcases List.mem_append.1 hs with hs | hs
   ·exact z2 s hs
   ·rw [List.mem_singleton.1 hs]; exact fork_ok _ _ (Int.le_refl _)
theorem ofM_ok:∀ (ts:List (List It)) (k:Nat) (f:List Int) (tl:List St) (Z:List Int),(∀ l∈ts,(treeD l).okT∧(treeD l).items=l)→(∀ s∈tl,StN Z (k:Nat) s)→
 ∃ Z':List Int,Z'.length≤Z.length+clsAll ts∧∀ s∈(ofM ts k f tl).2,StN Z' ((k+ts.length:Nat):Int) s
 | [],k,f,tl,Z,hg,h=>⟨Z,by simp [clsAll],by simpa [ofM] using h⟩
 | l :: ts,k,f,tl,Z,hg,h=>by
   obtain ⟨hok,hit⟩:=hg l (by simp)
   obtain ⟨Z1,z1,z2⟩:=bld_ok (treeD l) (tl.length+1) (tl.length+2) hok
   rw [hit] at z1
   obtain ⟨Z',z3,z4⟩:=ofM_ok ts (k+1) (f++[((bld (treeD l) (tl.length+1) (tl.length+2)).2:Int)]) (tl++endS k :: (bld (treeD l) (tl.length+1) (tl.length+2)).1) (Z++Z1) (fun l' hl'=>hg l' (by simp [hl'])) (fun s hs=>by
    rcases List.mem_append.1 hs with q | q
    ·exact (h s q).mono (fun x hx=>List.mem_append_left _ hx) (by omega)
    ·rcases List.mem_cons.1 q with q | q
     ·rw [q]; exact ⟨⟨by simp [endS],by simp [endS]⟩,⟨by simp [endS],by simp [endS]⟩,.inl rfl,⟨by simp only [endS]; omega,by simp only [endS]; omega⟩⟩
     ·exact (z2 s q).mono (fun x hx=>List.mem_append_right _ hx) (by omega))
   refine ⟨Z',by simp only [clsAll,List.length_append] at z3 ⊢; omega,fun s hs=>?_⟩
   rw [ofM] at hs
   have:=z4 s hs
   rwa [show k+1+ts.length=k+(l :: ts).length by simp; omega] at this
theorem nfaM_ok {pats:List (List It)} (hpar:∀ l∈pats,∃ s,parseR s=some l):∃ Z:List Int,Z.length≤clsAll pats∧∀ s∈nfaM pats,StN Z (pats.length:Nat) s:=by
 obtain ⟨g1,g2,g3⟩:=good_of hpar
 obtain ⟨Z,z1,z2⟩:=ofM_ok pats 0 [] [] [] (fun l hl=>⟨g3 l hl,(g1 l hl).it⟩) (fun s hs=>by cases hs)
 refine ⟨Z,by simpa using z1,fun s hs=>?_⟩
 unfold nfaM at hs
 rcases List.mem_cons.1 hs with q | q
 ·rw [q]; exact fork_ok _ _ (by omega)
 ·simpa using z2 s q
theorem nfaM_byte {pats:List (List It)} (hpar:∀ l∈pats,∃ s,parseR s=some l):ByteS (nfaM pats):=by
 obtain ⟨Z,_,z⟩:=nfaM_ok hpar
 exact fun s hs=>⟨(z s hs).lo,(z s hs).hi⟩
def subs:List Nat→List (List Nat)
 | []=>[[]]
 | x :: l=>subs l++(subs l).map (x :: ·)
theorem subs_len:∀ l:List Nat,(subs l).length=2 ^ l.length
 | []=>rfl
 | x :: l=>by
   simp only [subs,List.length_append,List.length_map,subs_len l,List.length_cons,Nat.pow_succ]
   omega
theorem filter_subs (p:Nat→Bool):∀ l:List Nat,l.filter p∈subs l
 | []=>by simp [subs]
 | x :: l=>by
   have ih:=filter_subs p l
   simp only [subs,List.mem_append,List.mem_map]
   by_cases h:p x=true
   ·rw [List.filter_cons_of_pos h]; exact .inr ⟨_,ih,rfl⟩
   ·rw [List.filter_cons_of_neg h]; exact .inl ih
def once:List Nat→List Nat
 | []=>[]
 | x :: l=>if x∈once l then once l else x :: once l
theorem once_mem:∀ (l:List Nat) (y:Nat),y∈once l↔y∈l
 | [],y=>by simp [once]
 | x :: l,y=>by
   have ih:=once_mem l
   simp only [once]
   split
   ·rename_i h
    rw [ih]
    constructor
    ·exact fun z=>by simp [z]
    ·intro z
     rcases List.mem_cons.1 z with z | z
     ·rw [z]; exact (ih x).1 h
     ·exact z
   ·simp only [List.mem_cons,ih]
theorem once_nod:∀ l:List Nat,(once l).Nodup
 | []=>by simp [once]
 | x :: l=>by
   have ih:=once_nod l
   simp only [once]
   split
   ·exact ih
   ·rename_i h; exact List.nodup_cons.2 ⟨h,ih⟩
theorem once_len:∀ l:List Nat,(once l).length≤l.length
 | []=>by simp [once]
 | x :: l=>by
   have ih:=once_len l
   simp only [once]
   split<;>simp only [List.length_cons]<;>omega
theorem pigeon {α β:Type} {R:α→β→Prop} (hR:∀ t u m,R t m→R u m→t=u):∀ (l:List α) (A:List β),l.Nodup→(∀ t∈l,∃ m∈A,R t m)→l.length≤A.length
 | [],A,_,_=>by simp
 | t :: l,A,hn,h=>by
   obtain ⟨m,hm,hr⟩:=h t (by simp)
   obtain ⟨A1,A2,rfl⟩:=List.append_of_mem hm
   have hn:=List.nodup_cons.1 hn
   have:=pigeon hR l (A1++A2) hn.2 fun u hu=>by
    obtain ⟨m',hm',hr'⟩:=h u (by simp [hu])
    refine ⟨m',?_,hr'⟩
    rcases List.mem_append.1 hm' with z | z
    ·exact List.mem_append_left _ z
    ·rcases List.mem_cons.1 z with z | z
     ·subst z
      exact absurd (by rw [hR t u m' hr hr']; exact hu) hn.1
     ·exact List.mem_append_right _ z
   simp only [List.length_append,List.length_cons] at this ⊢
   omega
def SgR (S:List St) (t:ByteArray):Option (List Nat)→Prop
 | none=>∃ bs,t=strB bs∧Bits S.length bs (begM S)
 | some M=>∃ bs,t=strB bs∧Bits S.length bs (clM S M)
theorem few_rows {pats:List (List It)} (hpar:∀ l∈pats,∃ s,parseR s=some l) {ts:List ByteArray} (hk:KsOk (nfaM pats) ts) (h:300<ts.length):8<clsAll pats:=by
 obtain ⟨Z,z1,z2⟩:=nfaM_ok hpar
 generalize hS:nfaM pats=S at *
 rcases Nat.lt_or_ge 8 (clsAll pats) with q | q
 ·exact q
 exfalso
 let NX:=once (Z.map Int.toNat)
 have hNX:NX.length≤8:=by
  have:=once_len (Z.map Int.toNat)
  rw [List.length_map] at this
  show (once (Z.map Int.toNat)).length≤8
  omega
 have:=pigeon (R:=SgR S) (fun t u m h1 h2=>by
  cases m with
  | none =>
    obtain ⟨bs,rfl,h1⟩:=h1
    obtain ⟨cs,rfl,h2⟩:=h2
    rw [h1.ext h2 fun x=>Iff.rfl]
  | some M =>
    obtain ⟨bs,rfl,h1⟩:=h1
    obtain ⟨cs,rfl,h2⟩:=h2
    rw [h1.ext h2 fun x=>Iff.rfl]) ts (none :: (subs NX).map some) hk.nod fun t ht=>by
  rcases hk.way t ht with ⟨bs,h1,h2⟩ | ⟨b,K,bs,h1,h2⟩
  ·exact ⟨none,by simp,bs,h1,h2⟩
  ·have hsub:∀ y∈K.foldl (moveM S ((b:Nat):Int)) [],y∈NX∧y<S.length:=fun y hy=>by
    rcases (moveF_mem K [] y).1 hy with z | ⟨⟨x,x1,x2,x3,x4⟩,x5⟩ | z
    ·cases z
    ·refine ⟨(once_mem _ _).2 (List.mem_map.2 ⟨(y:Int),?_,by omega⟩),x5⟩
     by_cases hx:x<S.length
     ·rcases (z2 _ (stAt_mem hx)).nx with w | w
      ·rw [x4] at w; omega
      ·rw [← x4]; exact w
     ·have:stAt S x=st0:=by unfold stAt; rw [List.getElem?_eq_none (by omega)]; rfl
      rw [this] at x4
      simp [st0] at x4
    ·cases z
   refine ⟨some (NX.filter fun y=>decide (y∈K.foldl (moveM S ((b:Nat):Int)) [])),List.mem_cons_of_mem _ (List.mem_map.2 ⟨_,filter_subs _ _,rfl⟩),bs,h1,?_⟩
   refine h2.of_same (clM_same (moveF_fit K [] (fit_nil _)) ⟨(once_nod _).filter _,fun x hx=>?_⟩ fun y=>?_)
   ·exact (hsub x (by simpa using (List.mem_filter.1 hx).2)).2
   ·rw [List.mem_filter,decide_eq_true_iff]
    exact ⟨fun z=>⟨(hsub y z).1,z⟩,fun z=>z.2⟩
 rw [List.length_cons,List.length_map,subs_len] at this
 have h2:2 ^ NX.length≤2 ^ 8:=Nat.pow_le_pow_right (by omega) hNX
 omega
end Go.Ew
