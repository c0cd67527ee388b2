import Derived.Test.YtfhjkkbaghanhaaGreatEwNf1
set_option linter.unusedVariables false
set_option linter.unusedSimpArgs false
namespace Go.Ew
open Go.Ev Go.Deep
structure St where
 lo:Int
 hi:Int
 next:Int
 free:List Int
 e:Int
abbrev ST5:TI:=⟨5,48,true,3,0,0,[(0,1),(1,1),(2,1),(3,1),(4,1)],[.int .u8 0,.int .u8 0,.int .i64 0,.slice none 0 0,.int .i64 0]⟩
abbrev IT1:TI:=⟨1,8,false,5,0,0,[],[.int .i64 0]⟩
def inC (l:List Int):List Value:=l.map (Value.int .i64)
def stC (s:St) (a:OA) (c:Nat):List Value:=[.int .u8 s.lo,.int .u8 s.hi,.int .i64 s.next,.slice a s.free.length c,.int .i64 s.e]
def SsR (X:KH):List St→List Value→Prop
 | [],cs=>cs=[]
 | s :: r,cs=>∃ a c ds,cs=stC s a c++ds∧kold X 1 a s.free.length=some (inC s.free)∧SsR X r ds
theorem SsR.mono {X Y:KH} (hl:Le X Y):∀ {l:List St} {cs:List Value},SsR X l cs→SsR Y l cs
 | [],cs,h=>h
 | s :: r,cs,⟨a,c,ds,h1,h2,h3⟩=>⟨a,c,ds,h1,hl.kold h2,h3.mono hl⟩
theorem SsR.len {X:KH}:∀ {l:List St} {cs:List Value},SsR X l cs→cs.length=l.length*5
 | [],cs,h=>by
   have h:cs=[]:=h
   subst h; rfl
 | s :: r,cs,⟨a,c,ds,h1,h2,h3⟩=>by
   have:=h3.len
   subst h1
   simp only [List.length_append,List.length_cons,stC,List.length_nil]
   omega
theorem SsR.app {X:KH}:∀ {l m:List St} {cs ds:List Value},SsR X l cs→SsR X m ds→SsR X (l++m) (cs++ds)
 | [],m,cs,ds,h,k=>by
   have h:cs=[]:=h
   subst h; exact k
 | s :: r,m,cs,ds,⟨a,c,es,h1,h2,h3⟩,k=>⟨a,c,es++ds,by rw [h1,List.append_assoc],h2,h3.app k⟩
theorem SsR.split {X:KH}:∀ {l m:List St} {cs:List Value},SsR X (l++m) cs→∃ c1 c2,cs=c1++c2∧SsR X l c1∧SsR X m c2
 | [],m,cs,h=>⟨[],cs,rfl,rfl,h⟩
 | s :: r,m,cs,⟨a,c,es,h1,h2,h3⟩=>by
   obtain ⟨c1,c2,q1,q2,q3⟩:=SsR.split h3
   exact ⟨stC s a c++c1,c2,by rw [h1,q1,List.append_assoc],⟨a,c,c1,rfl,h2,q2⟩,q3⟩
def SsC (X:KH) (hole:OA × Nat):List St→List Value→Prop
 | [],cs=>cs=[]
 | s :: r,cs=>∃ ds,cs=stC s hole.1 hole.2++ds∧SsR X r ds
theorem SsC.mono {X Y:KH} {hole:OA × Nat} (hl:Le X Y):∀ {l:List St} {cs:List Value},SsC X hole l cs→SsC Y hole l cs
 | [],cs,h=>h
 | s :: r,cs,⟨ds,h1,h2⟩=>⟨ds,h1,h2.mono hl⟩
theorem SsC.app {X:KH} {hole:OA × Nat} {l m:List St} {cs ds:List Value} (hne:l≠[]) (h:SsC X hole l cs) (k:SsR X m ds):SsC X hole (l++m) (cs++ds):=by
 match l,hne,h with
 | s :: r,_,⟨es,h1,h2⟩=>exact ⟨es++ds,by rw [h1,List.append_assoc],h2.app k⟩
theorem SsC.split {X:KH} {hole:OA × Nat} {l m:List St} {cs:List Value} (hne:l≠[]) (h:SsC X hole (l++m) cs):∃ c1 c2,cs=c1++c2∧SsC X hole l c1∧SsR X m c2:=by
 match l,hne,h with
 | s :: r,_,⟨es,h1,h2⟩ =>
   obtain ⟨c1,c2,q1,q2,q3⟩:=SsR.split h2
   exact ⟨stC s hole.1 hole.2++c1,c2,by rw [h1,q1,List.append_assoc],⟨c1,rfl,q2⟩,q3⟩
theorem SsC.len {X:KH} {hole:OA × Nat}:∀ {l:List St} {cs:List Value},SsC X hole l cs→cs.length=l.length*5
 | [],cs,h=>by
   have h:cs=[]:=h
   subst h; rfl
 | s :: r,cs,⟨ds,h1,h2⟩=>by
   have:=h2.len
   subst h1
   simp only [List.length_append,List.length_cons,stC,List.length_nil]
   omega
structure Bu (X H:KH) (p:Nat) (hole:OA × Nat) (l:List St) (a:OA) (c:Nat):Prop where
 le:Le X H
 xp:X p=none
 pt:∃ e,H p=some e∧wrB e=true∧rd e.cells 0 1=some [.slice a l.length c]
 row:∃ cs,Gr H 5 a l.length c cs []∧SsC X hole l cs
 out:∀ b,blk a=some b→X b=none∧b≠p
theorem Bu.c0 {X H:KH} {p:Nat} {hole:OA × Nat} {l:List St} {a:OA} {c:Nat} (h:Bu X H p hole l a c):ld H ⟨p,0,none⟩ [.slice a l.length c]:=by
 obtain ⟨e,h1,h2,h3⟩:=h.pt
 exact ⟨rfl,e,h1,h3⟩
theorem Bu.may {X H:KH} {p:Nat} {hole:OA × Nat} {l:List St} {a:OA} {c:Nat} (h:Bu X H p hole l a c):KH.may H p:=by
 obtain ⟨e,h1,h2,h3⟩:=h.pt
 exact ⟨e,h1,h2⟩
theorem Bu.agree {X Y H H':KH} {p:Nat} {hole:OA × Nat} {l:List St} {a:OA} {c:Nat} (h:Bu X H p hole l a c) (hl:Le X Y) (hY:Le Y H') (hp:Y p=none) (ho:∀ b,blk a=some b→Y b=none) (hk:∀ k e,(k=p∨blk a=some k)→H k=some e→H' k=some e):Bu Y H' p hole l a c:=by
 obtain ⟨e,h1,h2,h3⟩:=h.pt
 obtain ⟨cs,r1,r2⟩:=h.row
 exact ⟨hY,hp,⟨e,hk p e (.inl rfl) h1,h2,h3⟩,⟨cs,r1.agree fun k e q1 q2=>hk k e (.inr q1) q2,r2.mono hl⟩,fun b q=>⟨ho b q,(h.out b q).2⟩⟩
structure Gw (X H X' H':KH) (p:Nat) (a a':OA):Prop where
 le:Le X X'
 fr:∀ k e,H k=some e→k≠p→blk a≠some k→H' k=some e
 fresh:∀ b,blk a'=some b→blk a=some b∨H b=none
 nw:∀ k,X' k≠none→X k≠none∨H k=none∨blk a=some k
theorem Gw.refl (X H:KH) (p:Nat) (a:OA):Gw X H X H p a a:=⟨Le.refl _,fun _ _ q _ _=>q,fun _ q=>.inl q,fun _ q=>.inl q⟩
theorem none_or (H:KH) (k:Nat):H k=none∨∃ e,H k=some e:=by
 cases H k with
 | none=>exact .inl rfl
 | some e=>exact .inr ⟨e,rfl⟩
theorem Gw.trans {X H X1 H1 X2 H2:KH} {p:Nat} {a a1 a2:OA} (g:Gw X H X1 H1 p a a1) (k:Gw X1 H1 X2 H2 p a1 a2) (hp:H1 p≠none) (hx2:X2 p=none) (hap:blk a2≠some p):Gw X H X2 H2 p a a2:=by
 have key:∀ q e,H q=some e→q≠p→blk a≠some q→H1 q=some e∧blk a1≠some q:=fun q e h1 h2 h3=>⟨g.fr q e h1 h2 h3,fun x=>by
  rcases g.fresh q x with y | y
  ·exact h3 y
  ·rw [h1] at y; cases y⟩
 refine ⟨g.le.trans k.le,fun q e h1 h2 h3=>?_,fun b h=>?_,fun q h=>?_⟩
 ·obtain ⟨u1,u2⟩:=key q e h1 h2 h3
  exact k.fr q e u1 h2 u2
 ·rcases none_or H b with y | ⟨e,y⟩
  ·exact .inr y
  ·rcases k.fresh b h with x | x
   ·exact g.fresh b x
   ·by_cases hb:blk a=some b
    ·exact .inl hb
    ·have hbp:b≠p:=fun q=>hap (by rw [h,q])
     rw [(key b e y hbp hb).1] at x; cases x
 ·rcases k.nw q h with x | x | x
  ·exact g.nw q x
  ·rcases none_or H q with y | ⟨e,y⟩
   ·exact .inr (.inl y)
   ·by_cases hb:blk a=some q
    ·exact .inr (.inr hb)
    ·have hqp:q≠p:=fun z=>h (by rw [z]; exact hx2)
     rw [(key q e y hqp hb).1] at x; cases x
  ·rcases g.fresh q x with y | y
   ·exact .inr (.inr y)
   ·exact .inr (.inl y)
theorem Bu.push {X H:KH} {p:Nat} {hole:OA × Nat} {l:List St} {a:OA} {c:Nat} {s:St} {af:OA} {cf nm:Nat} (h:Bu X H p hole l a c) (hf:(l=[]∧hole=(af,cf))∨(l≠[]∧kold X 1 af s.free.length=some (inC s.free))) (hnm:H nm=none) (hs:l.length≤200000) :
 ∃ a' H',kappend H nm ST5 a l.length c 1 (stC s af cf)=some (.slice a' (l.length+1) unkU,H')∧(∃ w:List Value,w.length=1∧ld H' ⟨p,0,none⟩ w)∧KH.may H' p∧Bu X (H'.put ⟨p,0,none⟩ [.slice a' (l.length+1) unkU]) p hole (l++[s]) a' unkU∧Gw X H X (H'.put ⟨p,0,none⟩ [.slice a' (l.length+1) unkU]) p a a':=by
 obtain ⟨ep,p1,p2,p3⟩:=h.pt
 obtain ⟨cs,r1,r2⟩:=h.row
 obtain ⟨a',H',ex',g1,g2,g3,g4,g5⟩:=r1.append (ti:=ST5) (new:=stC s af cf) hnm rfl (by omega) (by decide) (by decide)
 have hx:=g3 rfl
 subst hx
 have hpa:blk a≠some p:=fun q=>(h.out p q).2 rfl
 have hp':H' p=some ep:=g4 p ep p1 hpa
 have hX:Le X H':=fun k e q=>g4 k e (h.le k e q) fun x=>by rw [(h.out k x).1] at q; cases q
 have hnX:X nm=none:=h.le.none hnm
 have hnp:nm≠p:=fun x=>by rw [x,p1] at hnm; cases hnm
 have hout:∀ b,blk a'=some b→X b=none∧b≠p:=fun b q=>by
  rcases g5 b q with q | q
  ·exact h.out b q
  ·rw [q]; exact ⟨hnX,hnp⟩
 have hcell:SsC X hole (l++[s]) (cs++stC s af cf):=by
  rcases hf with ⟨q1,q2⟩ | ⟨q1,q2⟩
  ·subst q1
   have r2:cs=[]:=r2
   subst r2
   refine ⟨[],?_,rfl⟩
   rw [q2]; rfl
  ·exact r2.app q1 ⟨af,cf,[],rfl,q2,rfl⟩
 refine ⟨a',H',g1,⟨[.slice a l.length c],rfl,rfl,ep,hp',p3⟩,⟨ep,hp',p2⟩,⟨fun k e q=>put_ne (fun x=>by rw [x,h.xp] at q; cases q) (hX k e q),h.xp,⟨⟨wr ep.cells 0 [.slice a' (l.length+1) unkU],ep.len,ep.unk,none⟩,by simp only [KH.put,if_true,hp',Option.map_some],wrB_keep p2,?_⟩,⟨_,?_,hcell⟩,hout⟩,⟨Le.refl _,fun k e q1 q2 q3=>put_ne q2 (g4 k e q1 q3),fun b q=>(g5 b q).imp id fun q=>by rw [q]; exact hnm,fun k q=>.inl q⟩⟩
 ·have:=rdWr (e:=ep.cells) (N:=1) (o:=0) (xs:=[]) (ys:=[.slice a l.length c]) (zs:=[]) (vs:=[.slice a' (l.length+1) unkU]) (by simpa using p3) rfl rfl
  simpa using this
 ·have:=g2.agree (H':=H'.put ⟨p,0,none⟩ [.slice a' (l.length+1) unkU]) fun k e hk q=>put_ne (hout k hk).2 q
  simpa using this
def forkS (f:List Int):St:=⟨0,0,-1,f,0⟩
def clsS5 (nx:Nat) (r:Rg):St:=⟨r.1,r.2,(nx:Nat),[],0⟩
def bld:Ptn→Nat→Nat→List St × Nat
 | .cls L,nx,n=>if L.length=1 then (L.map (clsS5 nx),n) else (L.map (clsS5 nx)++[forkS ((List.range L.length).map fun k=>((n+k:Nat):Int))],n+L.length)
 | .join a b,nx,n=>((bld b nx n).1++(bld a (bld b nx n).2 (n+(bld b nx n).1.length)).1,(bld a (bld b nx n).2 (n+(bld b nx n).1.length)).2)
 | .alt a b,nx,n=>((bld a nx n).1++(bld b nx (n+(bld a nx n).1.length)).1++[forkS [((bld a nx n).2:Nat),((bld b nx (n+(bld a nx n).1.length)).2:Nat)]],n+(bld a nx n).1.length+(bld b nx (n+(bld a nx n).1.length)).1.length)
 | .star a,nx,n=>(forkS [((bld a n (n+1)).2:Nat),(nx:Nat)] :: (bld a n (n+1)).1,n)
 | .plus a,nx,n=>(forkS [((bld a n (n+1)).2:Nat),(nx:Nat)] :: (bld a n (n+1)).1,(bld a n (n+1)).2)
 | .may a,nx,n=>((bld a nx n).1++[forkS [((bld a nx n).2:Nat),(nx:Nat)]],n+(bld a nx n).1.length)
theorem bld_len:∀ (t:Ptn) (nx n:Nat),t.fit→(bld t nx n).1.length≤26*t.items.length∧n≤(bld t nx n).2∧(bld t nx n).2≤n+(bld t nx n).1.length
 | .cls L,nx,n,h=>by
   have h:L.length≤24:=h
   simp only [bld,Ptn.items]
   split
   ·simp; omega
   ·simp; omega
 | .join a b,nx,n,h=>by
   have h1:=bld_len b nx n h.2
   have h2:=bld_len a (bld b nx n).2 (n+(bld b nx n).1.length) h.1
   simp only [bld,Ptn.items,List.length_append,List.length_cons,List.length_nil]
   omega
 | .alt a b,nx,n,h=>by
   have h1:=bld_len a nx n h.1
   have h2:=bld_len b nx (n+(bld a nx n).1.length) h.2
   simp only [bld,Ptn.items,List.length_append,List.length_cons,List.length_nil]
   omega
 | .star a,nx,n,h=>by
   have h1:=bld_len a n (n+1) h
   simp only [bld,Ptn.items,List.length_append,List.length_cons,List.length_nil]
   omega
 | .plus a,nx,n,h=>by
   have h1:=bld_len a n (n+1) h
   simp only [bld,Ptn.items,List.length_append,List.length_cons,List.length_nil]
   omega
 | .may a,nx,n,h=>by
   have h1:=bld_len a nx n h
   simp only [bld,Ptn.items,List.length_append,List.length_cons,List.length_nil]
   omega
end Go.Ew
namespace Go.Proofs.YtfhjkkbaghanhaaGreat
open Go.Ev Go.Ew
namespace Va
section
variable (ok : EnvOk (env Tryz.prog))
include ok
theorem c36 {X H:KH} {p:Nat} {hole:OA × Nat} {l:List St} {a:OA} {c:Nat} {s:St} {af:OA} {cf:Nat} {Q:PQ} (h:Bu X H p hole l a c) (hf:(l=[]∧hole=(af,cf))∨(l≠[]∧kold X 1 af s.free.length=some (inC s.free))) (hs:l.length≤200000)
 (hq:∀ H' a',Bu X H' p hole (l++[s]) a' unkU→Gw X H X H' p a a'→Q (.int .i64 (l.length:Nat)) H'):Does (env Tryz.prog) 36 [.pointer (some ⟨p,0,none⟩),.agg (stC s af cf).toArray] H Q:=by
 refine fn36 ok ⟨trivial,rfl,a,_,c,h.c0,fun n4 h4 n5 h5=>?_⟩
 have hpn:n4≠p:=fun x=>by obtain ⟨e,q,_⟩:=h.pt; rw [x,q] at h4; cases h4
 have l1:Le H (H.new n4 (mkEnt (stC s af cf) 0)):=Le.new h4
 have h':Bu X (H.new n4 (mkEnt (stC s af cf) 0)) p hole l a c:=h.agree (Le.refl _) (h.le.trans l1) h.xp (fun b q=>(h.out b q).1) fun k e _ q=>l1 k e q
 obtain ⟨a',H',g1,g2,g3,g4,g5⟩:=h'.push (s:=s) (af:=af) (cf:=cf) hf h5 hs
 have hw:IntKind.wrap .i64 (((l.length+1:Nat):Int)-1)=((l.length:Nat):Int):=by rw [wrap64 (by omega) (by omega)]; omega
 refine ⟨1,_,knew_of (lit_kold (if_pos rfl) rfl),a',_,_,H',g1,⟨rfl,trivial⟩,rfl,g2,g3,trivial,rfl,a',_,unkU,g4.c0,?_⟩
 have hl:(l++[s]).length=l.length+1:=by simp
 rw [hl,hw]
 exact hq _ a' g4 ⟨Le.refl _,fun k e q1 q2 q3=>g5.fr k e (l1 k e q1) q2 q3,fun b q=>(g5.fresh b q).imp id fun q=>l1.none q,fun k q=>.inl q⟩
theorem c34 {X H:KH} {p:Nat} {hole:OA × Nat} {l:List St} {a:OA} {c:Nat} {f:List Int} {af:OA} {cf:Nat} {Q:PQ} (h:Bu X H p hole l a c) (hf:(l=[]∧hole=(af,cf))∨(l≠[]∧kold X 1 af f.length=some (inC f))) (hs:l.length≤200000)
 (hq:∀ H' a',Bu X H' p hole (l++[forkS f]) a' unkU→Gw X H X H' p a a'→Q (.int .i64 (l.length:Nat)) H'):Does (env Tryz.prog) 34 [.pointer (some ⟨p,0,none⟩),.slice af f.length cf] H Q :=
 fn34 ok (c36 ok (s:=forkS f) h hf hs fun H' a' h1 h2=>⟨_,rfl,hq H' a' h1 h2⟩)
end
end Va
end Go.Proofs.YtfhjkkbaghanhaaGreat
set_option linter.unusedVariables false
set_option linter.unusedSimpArgs false
namespace Go.Ew
open Go.Ev Go.Deep
theorem Gr.put {H:KH} {sz n c b o:Nat} {xs ys zs ex vs:List Value} (h:Gr H sz (some ⟨b,0,none⟩) n c (xs++ys++zs) ex) (hx:xs.length=o) (hv:ys.length=vs.length):Gr (H.put ⟨b,o,none⟩ vs) sz (some ⟨b,0,none⟩) n c (xs++vs++zs) ex∧ld H ⟨b,o,none⟩ ys∧KH.may H b:=by
 cases h with
 | on b _ e _ _ h1 h2 h3 h4 h5 h6 =>
   have hlen:(xs++vs++zs).length=(xs++ys++zs).length:=by simp only [List.length_append]; omega
   have hlen2:(xs++vs++zs++ex).length=(xs++ys++zs++ex).length:=by simp only [List.length_append]; omega
   refine ⟨.on b n ⟨wr e.cells o vs,e.len,e.unk,none⟩ _ _ (by simp only [KH.put,if_true,h1,Option.map_some]) h2 (by rw [hlen2]; exact h3) ?_ (wrB_keep h5) (by rw [hlen]; exact h6),?_,⟨e,h1,h5⟩⟩
   ·rw [hlen2]
    have:=rdWr (e:=e.cells) (N:=(xs++ys++zs++ex).length) (o:=o) (xs:=xs) (ys:=ys) (zs:=zs++ex) (vs:=vs) (by simpa using h4) hx hv
    simpa using this
   ·have:=ldSub (H:=H) (b:=b) (o:=0) (cs:=xs++ys++zs++ex) ⟨rfl,e,h1,h4⟩ o ys.length (by simp; omega)
    rw [Nat.zero_add] at this
    have he:((xs++ys++zs++ex).drop o).take ys.length=ys:=by
     rw [← hx]
     simp [List.append_assoc]
    rwa [he] at this
theorem Gw.none_ {X H X1 H1:KH} {p:Nat} {a a1:OA} (g:Gw X H X1 H1 p a a1) (hp:H1 p≠none) {k:Nat} (hk:H1 k=none):H k=none∨blk a=some k:=by
 rcases none_or H k with y | ⟨e,y⟩
 ·exact .inl y
 ·by_cases hb:blk a=some k
  ·exact .inr hb
  ·have hkp:k≠p:=fun z=>hp (by rw [← z]; exact hk)
   rw [g.fr k e y hkp hb] at hk; cases hk
theorem Bu.known {X H:KH} {p:Nat} {hole:OA × Nat} {l:List St} {a:OA} {c:Nat} (h:Bu X H p hole l a c):H p≠none:=by
 obtain ⟨e,h1,_⟩:=h.pt
 rw [h1]; simp
theorem Gr.know {X H:KH} {sz n c:Nat} {a:OA} {cs:List Value} (h:Gr H sz a n c cs []) (hl:Le X H) (ho:∀ b,blk a=some b→X b=none):∃ Y,Le X Y∧Le Y H∧kold Y sz a n=some cs∧∀ k,Y k≠none→X k≠none∨blk a=some k:=by
 cases h with
 | nil=>exact ⟨X,Le.refl _,hl,rfl,fun k q=>.inl q⟩
 | on b _ e _ _ h1 h2 h3 h4 h5 h6 =>
   refine ⟨X.new b e,Le.new (ho b rfl),fun k e' q=>?_,kold_some.2 ⟨e,if_pos rfl,?_⟩,fun k q=>?_⟩
   ·simp only [KH.new] at q
    split at q
    ·rename_i hk; subst hk; cases q; exact h1
    ·exact hl k e' q
   ·rw [← h6]; simpa using h4
   ·simp only [KH.new] at q
    split at q
    ·rename_i hk; exact .inr (by rw [hk]; rfl)
    ·exact .inl q
theorem Bu.lit {X H:KH} {p:Nat} {hole:OA × Nat} {l:List St} {a:OA} {c n:Nat} {x y:Int} (h:Bu X H p hole l a c) (hn:H n=none):Bu (X.new n (mkEnt [.int .i64 x,.int .i64 y] 0)) (H.new n (mkEnt [.int .i64 x,.int .i64 y] 0)) p hole l a c∧kold (X.new n (mkEnt [.int .i64 x,.int .i64 y] 0)) 1 (some ⟨n,0,none⟩) 2=some (inC [x,y])∧∀ {X0 H0:KH} {a0:OA},Gw X0 H0 X H p a0 a→Gw X0 H0 (X.new n (mkEnt [.int .i64 x,.int .i64 y] 0)) (H.new n (mkEnt [.int .i64 x,.int .i64 y] 0)) p a0 a:=by
 have hXn:X n=none:=h.le.none hn
 have l1:=Le.new (e:=mkEnt [.int .i64 x,.int .i64 y] 0) hn
 have hnp:n≠p:=fun q=>h.known (by rw [← q]; exact hn)
 have hna:∀ b,blk a=some b→b≠n:=fun b q z=>by
  obtain ⟨cs,r1,_⟩:=h.row
  obtain ⟨e,w⟩:=r1.at' q
  rw [z,hn] at w; cases w
 refine ⟨h.agree (Le.new hXn) (fun k e q=>?_) (by simp only [KH.new]; rw [if_neg (fun q=>hnp q.symm)]; exact h.xp) (fun b q=>?_) fun k e _ q=>l1 k e q,lit_kold (if_pos rfl) rfl,fun g=>⟨g.le.trans (Le.new hXn),fun k e q1 q2 q3=>l1 k e (g.fr k e q1 q2 q3),g.fresh,fun k q=>?_⟩⟩
 ·simp only [KH.new] at q ⊢
  split at q
  ·rename_i z; rw [if_pos z]; exact q
  ·rename_i z; rw [if_neg z]; exact h.le k e q
 ·simp only [KH.new]; rw [if_neg (hna b q)]; exact (h.out b q).1
 ·simp only [KH.new] at q
  split at q
  ·rename_i z
   subst z
   exact .inr (g.none_ h.known hn)
  ·exact g.nw k q
def waysM (n k:Nat):List Int:=(List.range k).map fun j=>((n+j:Nat):Int)
theorem waysM_succ (n k:Nat):waysM n (k+1)=waysM n k++[((n+k:Nat):Int)]:=by
 unfold waysM
 rw [List.range_succ,List.map_append]; rfl
theorem waysM_len (n k:Nat):(waysM n k).length=k:=by simp [waysM]
end Go.Ew
namespace Go.Proofs.YtfhjkkbaghanhaaGreat
open Go.Ev Go.Ew
namespace Va
section
variable (ok : EnvOk (env Tryz.prog))
include ok
theorem c61 {X H:KH} {p:Nat} {hole:OA × Nat} {l:List St} {a:OA} {c nx:Nat} {L:List Rg} {ar:OA} {cr:Nat} {Q:PQ} (h:Bu X H p hole l a c) (hne:l≠[]) (hr:kold X 2 ar L.length=some (rgC L)) (hL:L.length≤24) (hs:l.length≤100000)
 (hq:∀ X' H' a' c',Bu X' H' p hole (l++(bld (.cls L) nx l.length).1) a' c'→Gw X H X' H' p a a'→Q (.int .i64 ((bld (.cls L) nx l.length).2:Nat)) H'):Does (env Tryz.prog) 61 [.pointer (some ⟨p,0,none⟩),.slice ar L.length cr,.int .i64 (nx:Nat)] H Q:=by
 refine fn61 ok ?_
 unfold vc61 vc61_L2
 refine ⟨fun n3 n4 n5 x6 a7 n8 n9 a10 n11 n12 x13 x14 H15=>n4=p∧n5=0∧x6=(nx:Nat)∧a10=ar∧n11=L.length∧x13=(L.length:Nat)∧∃ (k:Nat) (a1:OA) (c1:Nat),x14=k∧k≤L.length∧n3=L.length-k∧Bu X H15 p hole (l++(L.take k).map (clsS5 nx)) a1 c1∧Gw X H X H15 p a a1∧n8=k∧Gr H15 1 a7 k n9 (inC (waysM l.length k)) []∧∀ b,blk a7=some b→X b=none∧b≠p∧blk a1≠some b∧(H b=none∨blk a=some b),
  ⟨L.length,rfl,rfl,rfl,rfl,rfl,rfl,rfl,0,a,c,rfl,by omega,rfl,by simpa using h,Gw.refl _ _ _ _,rfl,.nil,fun b q=>by cases q⟩,?_⟩
 rintro n3 n4 n5 x6 a7 n8 n9 a10 n11 n12 x13 x14 H15 ⟨rfl,rfl,rfl,rfl,rfl,rfl,k,a1,c1,rfl,hk,rfl,hB,hG,rfl,hW,hWo⟩
 have hlen:(l++(L.take n8).map (clsS5 nx)).length=l.length+n8:=by simp; omega
 refine ⟨fun hlt=>?_,fun hge=>⟨fun h1=>?_,fun h1=>?_⟩⟩
 ·have hlt:n8<L.length:=by have:=of_decide_eq_true hlt; omega
  have e0:Int.toNat ((n8:Nat):Int)=n8:=by omega
  obtain ⟨b1,o1,e1,r1⟩:=rowAddr (hB.le.kold hr) (by omega)
  have g1:=r1 (n8*2) 2 (by omega)
  rw [rgC_at (show L[n8]? = some L[n8] by simp [hlt])] at g1
  rw [e0]
  refine ⟨⟨by omega,by omega⟩,b1,o1,e1,_,_,g1,c36 ok (s:=clsS5 nx L[n8]) (af:=none) (cf:=0) hB (.inr ⟨by simp [hne],rfl⟩) (by rw [hlen]; omega) fun H6 a6 hB6 hG6=>⟨_,rfl,fun n81 h81 n91 h91=>?_⟩⟩
  rw [hlen] at h91 ⊢
  -- the row of ways is as it was
  have hW6:Gr H6 1 a7 n8 n9 (inC (waysM l.length n8)) []:=hW.agree fun k e q1 q2=>hG6.fr k e q2 (hWo k q1).2.1 (hWo k q1).2.2.1
  have ha6:∀ b,blk a7=some b→blk a6≠some b:=fun b q x=>by
   obtain ⟨e,q1⟩:=hW.at' q
   rcases hG6.fresh b x with y | y
   ·exact (hWo b q).2.2.1 y
   ·rw [q1] at y; cases y
  have l1:=Le.new (e:=mkEnt [.int .i64 ((l.length+n8:Nat):Int)] 0) h81
  obtain ⟨a',H',ex',f1,f2,f3,f4,f5⟩:=(hW6.agree fun k e _ q=>l1 k e q).append (ti:=IT1) (new:=[.int .i64 ((l.length+n8:Nat):Int)]) h91 rfl (by omega) (by decide) (by decide)
  have hx:=f3 rfl
  subst hx
  have hGt:=hG.trans hG6 hB.known hB6.xp (fun q=>(hB6.out n4 q).2 rfl)
  have hB':Bu X H' n4 hole (l++(L.take n8).map (clsS5 nx)++[clsS5 nx L[n8]]) a6 unkU:=by
   refine hB6.agree (Le.refl _) (fun k e q=>f4 k e (l1 k e (hB6.le k e q)) fun x=>by rw [(hWo k x).1] at q; cases q) hB6.xp (fun b q=>(hB6.out b q).1) fun k e q1 q2=>f4 k e (l1 k e q2) fun x=>?_
   rcases q1 with q1 | q1
   ·exact (hWo k x).2.1 q1
   ·exact ha6 k x q1
  have hlst:l++(L.take (n8+1)).map (clsS5 nx)=l++(L.take n8).map (clsS5 nx)++[clsS5 nx L[n8]]:=by
   rw [List.take_succ_eq_append_getElem hlt,List.map_append,List.append_assoc]; rfl
  have h9H6:H6 n91=none:=l1.none h91
  refine ⟨1,_,knew_of (lit_kold (if_pos rfl) rfl),a',_,_,H',f1,L.length-(n8+1),by omega,rfl,rfl,rfl,rfl,rfl,rfl,rfl,n8+1,a6,unkU,by rw [wrap64 (by omega) (by omega)]; omega,by omega,rfl,by rw [hlst]; exact hB',⟨Le.refl _,fun k e q1 q2 q3=>f4 k e (l1 k e (hGt.fr k e q1 q2 q3)) fun x=>?_,hGt.fresh,fun k q=>.inl q⟩,rfl,?_,fun b q=>?_⟩
  ·rcases (hWo k x).2.2.2 with y | y
   ·rw [q1] at y; cases y
   ·exact q3 y
  ·have:inC (waysM l.length (n8+1))=inC (waysM l.length n8)++[.int .i64 ((l.length+n8:Nat):Int)]:=by rw [waysM_succ]; simp [inC]
   rw [this]; exact f2
  ·rcases f5 b q with q | q
   ·exact ⟨(hWo b q).1,(hWo b q).2.1,ha6 b q,(hWo b q).2.2.2⟩
   ·subst q
    refine ⟨hB6.le.none h9H6,fun x=>hB6.known (by rw [← x]; exact h9H6),fun x=>?_,hGt.none_ hB6.known h9H6⟩
    obtain ⟨cs,r1,_⟩:=hB6.row
    obtain ⟨e,y⟩:=r1.at' x
    rw [h9H6] at y; cases y
 ·have hge:n8=L.length:=by have:=of_decide_eq_false hge; omega
  subst hge
  have h1:L.length=1:=by have:=of_decide_eq_true h1; omega
  obtain ⟨b1,o1,e1,r1⟩:=rowAddr hW.row (by omega)
  have g1:=r1 0 1 (by omega)
  have g1:ld H15 ⟨b1,o1+Int.toNat 0*1,none⟩ [.int .i64 ((l.length:Nat):Int)]:=by
   have e:((inC (waysM l.length L.length)).drop 0).take 1=[.int .i64 ((l.length:Nat):Int)]:=by rw [h1]; rfl
   rwa [e] at g1
  have hb:bld (.cls L) nx l.length=(L.map (clsS5 nx),l.length):=by simp only [bld]; rw [if_pos h1]
  rw [hb] at hq
  rw [List.take_length] at hB
  exact ⟨⟨by decide,by omega⟩,b1,o1,e1,_,g1,hq X H15 a1 c1 hB hG⟩
 ·have hge:n8=L.length:=by have:=of_decide_eq_false hge; omega
  subst hge
  have h1:L.length≠1:=by have:=of_decide_eq_false h1; omega
  have hb:bld (.cls L) nx l.length=(L.map (clsS5 nx)++[forkS (waysM l.length L.length)],l.length+L.length):=by simp only [bld]; rw [if_neg h1]; rfl
  rw [hb] at hq
  rw [List.take_length] at hB hlen
  obtain ⟨Y,y1,y2,y3,y4⟩:=hW.know hB.le (fun b q=>(hWo b q).1)
  have hYp:Y n4=none:=by
   rcases none_or Y n4 with q | ⟨e,q⟩
   ·exact q
   ·rcases y4 n4 (by rw [q]; simp) with z | z
    ·exact absurd hB.xp z
    ·exact absurd rfl (hWo n4 z).2.1
  have hYa:∀ b,blk a1=some b→Y b=none:=fun b q=>by
   rcases none_or Y b with z | ⟨e,z⟩
   ·exact z
   ·rcases y4 b (by rw [z]; simp) with u | u
    ·exact absurd (hB.out b q).1 u
    ·exact absurd q (hWo b u).2.2.1
  have hBY:Bu Y H15 n4 hole (l++L.map (clsS5 nx)) a1 c1:=hB.agree y1 y2 hYp hYa fun k e _ q=>q
  have hwl:L.length=(waysM l.length L.length).length:=(waysM_len _ _).symm
  have hcall:=c34 ok (f:=waysM l.length L.length) (af:=a7) (cf:=n9) (Q:=fun v H'=>∃ x6:Int,v = .int .i64 x6∧Q (.int .i64 x6) H') hBY (.inr ⟨by simp [hne],by rw [waysM_len]; exact y3⟩) (by rw [hlen]; omega) fun H5 a5 hB5 hG5=>⟨_,rfl,?_⟩
  ·rw [waysM_len] at hcall
   exact hcall
  ·rw [hlen]
   have hG0:Gw Y H Y H15 n4 a a1:=⟨Le.refl _,hG.fr,hG.fresh,fun k q=>.inl q⟩
   have hGt:=hG0.trans hG5 hBY.known hB5.xp (fun q=>(hB5.out n4 q).2 rfl)
   refine hq Y H5 a5 unkU (by rw [← List.append_assoc]; exact hB5) ⟨y1,hGt.fr,hGt.fresh,fun k q=>?_⟩
   rcases y4 k q with z | z
   ·exact .inl z
   ·exact .inr (hWo k z).2.2.2
def BlD (t:Ptn):Prop:=∀ (X H:KH) (p:Nat) (hole:OA × Nat) (l:List St) (a:OA) (c nx:Nat) (cs:List Value) (Q:PQ),Bu X H p hole l a c→l≠[]→NdC X t cs→l.length+26*t.items.length≤100000→
 (∀ X' H' a' c',Bu X' H' p hole (l++(bld t nx l.length).1) a' c'→Gw X H X' H' p a a'→Q (.int .i64 ((bld t nx l.length).2:Nat)) H')→Does (env Tryz.prog) 37 [.pointer (some ⟨p,0,none⟩),.agg cs.toArray,.int .i64 (nx:Nat)] H Q
theorem c60 {t:Ptn} (hT:BlD t) (hfit:t.fit) {X H:KH} {p:Nat} {hole:OA × Nat} {l:List St} {a:OA} {c nx:Nat} {cs:List Value} {Q:PQ} (h:Bu X H p hole l a c) (hne:l≠[]) (hn:NdC X t cs) (hs:l.length+26*t.items.length+1≤100000)
 (hq:∀ X' H' a' c',Bu X' H' p hole (l++forkS [((bld t l.length (l.length+1)).2:Nat),(nx:Nat)] :: (bld t l.length (l.length+1)).1) a' c'→Gw X H X' H' p a a'→Q (.tuple #[.int .i64 ((bld t l.length (l.length+1)).2:Nat),.int .i64 (l.length:Nat)]) H'):Does (env Tryz.prog) 60 [.pointer (some ⟨p,0,none⟩),.agg cs.toArray,.int .i64 (nx:Nat)] H Q:=by
 have h3:=hn.three
 obtain ⟨aa,n,cc,b,m,d,rfl⟩:=h3
 have hbl:=bld_len t l.length (l.length+1) hfit
 refine fn60 ok (c34 ok (f:=[]) (af:=none) (cf:=0) h (.inr ⟨hne,rfl⟩) (by omega) fun H2 a2 hB2 hG2=>⟨_,rfl,?_⟩)
 have hl1:(l++[forkS []]).length=l.length+1:=by simp
 refine hT X H2 p hole _ a2 unkU l.length _ _ hB2 (by simp) hn (by rw [hl1]; omega) fun X5 H5 a5 c5 hB5 hG5=>⟨_,rfl,rfl,a5,_,c5,hB5.c0,fun n10 h10=>?_⟩
 rw [hl1] at hB5 ⊢
 obtain ⟨hB6,hk6,hG6⟩:=hB5.lit (x:=((bld t l.length (l.length+1)).2:Nat)) (y:=(nx:Nat)) h10
 have hGt:=hG6 (hG2.trans hG5 hB2.known hB5.xp (fun q=>(hB5.out p q).2 rfl))
 have hlen:(l++[forkS []]++(bld t l.length (l.length+1)).1).length=l.length+1+(bld t l.length (l.length+1)).1.length:=by simp; omega
 obtain ⟨cells,r1,r2⟩:=hB6.row
 have e1:l++[forkS []]++(bld t l.length (l.length+1)).1=l++(forkS [] :: (bld t l.length (l.length+1)).1):=by simp
 rw [e1] at r2
 obtain ⟨w1,w2,u1,u2,u3⟩:=r2.split hne
 obtain ⟨af,cf,w3,u4,u5,u6⟩:=u3
 have hw1:=u2.len
 obtain ⟨bb,ha5⟩:∃ bb,a5=some ⟨bb,0,none⟩:=by
  generalize hN:(l++[forkS []]++(bld t l.length (l.length+1)).1).length=N at *
  cases r1 with
  | nil=>omega
  | on b _ e _ _ q1 q2 q3 q4 q5 q6=>exact ⟨b,rfl⟩
 subst ha5
 have hcells:cells=(w1++[.int .u8 0,.int .u8 0,.int .i64 (-1)])++[.slice af 0 cf]++([.int .i64 0]++w3):=by
  rw [u1,u4]
  simp [stC,forkS]
 rw [hcells] at r1
 have e0:Int.toNat ((l.length:Nat):Int)=l.length:=by omega
 have ho:(w1++[Value.int .u8 0,.int .u8 0,.int .i64 (-1)]).length=(0+l.length*5)+3:=by simp [hw1]
 obtain ⟨p1,p2,p3⟩:=r1.put (o:=(0+l.length*5)+3) (vs:=[.slice (some ⟨n10,0,none⟩) 2 2]) ho rfl
 rw [e0]
 have hbo:=hB6.out bb rfl
 refine ⟨⟨by omega,by rw [hlen]; omega⟩,bb,0,rfl,rfl,stOk p2 rfl,p3,?_⟩
 obtain ⟨ep,z1,z2,z3⟩:=hB6.pt
 have hll:(l++forkS [((bld t l.length (l.length+1)).2:Int),(nx:Int)] :: (bld t l.length (l.length+1)).1).length=(l++[forkS []]++(bld t l.length (l.length+1)).1).length:=by simp
 refine hq _ _ (some ⟨bb,0,none⟩) c5 ⟨fun k e q=>put_ne (fun x=>by rw [x,hbo.1] at q; cases q) (hB6.le k e q),hB6.xp,⟨ep,put_ne hbo.2.symm z1,z2,?_⟩,⟨w1++[.int .u8 0,.int .u8 0,.int .i64 (-1)]++[.slice (some ⟨n10,0,none⟩) 2 2]++([.int .i64 0]++w3),?_,?_⟩,hB6.out⟩ ⟨hGt.le,fun k e q1 q2 q3=>?_,hGt.fresh,hGt.nw⟩
 ·rw [hll]; exact z3
 ·rw [hll]; exact p1
 ·have hst:SsR (X5.new n10 (mkEnt [.int .i64 ((bld t l.length (l.length+1)).2:Nat),.int .i64 (nx:Nat)] 0)) (forkS [((bld t l.length (l.length+1)).2:Nat),(nx:Nat)] :: (bld t l.length (l.length+1)).1) (stC (forkS [((bld t l.length (l.length+1)).2:Nat),(nx:Nat)]) (some ⟨n10,0,none⟩) 2++w3):=⟨_,2,w3,rfl,hk6,u6⟩
  have:=u2.app hne hst
  simpa [stC,forkS] using this
 ·have hne2:k≠bb:=fun x=>by
   rcases hGt.fresh bb rfl with y | y
   ·exact q3 (by rw [x]; exact y)
   ·rw [x,y] at q1; cases q1
  exact put_ne hne2 (hGt.fr k e q1 q2 q3)
end
end Va
end Go.Proofs.YtfhjkkbaghanhaaGreat
set_option linter.unusedVariables false
set_option linter.unusedSimpArgs false
namespace Go.Proofs.YtfhjkkbaghanhaaGreat
open Go.Ev Go.Ew
namespace Va
section
variable (ok : EnvOk (env Tryz.prog))
include ok
theorem c37:∀ t:Ptn,t.fit→BlD t
 | .cls L,hf=>by
   intro X H p hole l a c nx cs Q h hne hn hs hq
   obtain ⟨a1,c1,b,d,rfl,h2⟩:=hn
   refine fn37 ok ⟨fun q=>by simp at q,fun _=>⟨fun q=>by simp at q,fun _=>⟨fun q=>by simp at q,fun _=>⟨fun q=>by simp at q,fun _=>⟨fun q=>by simp at q,fun _=>?_⟩⟩⟩⟩⟩
   exact c61 ok h hne (h.le.kold h2 |> fun _=>h2) hf (by omega) fun X' H' a' c' hB hG=>⟨_,rfl,hq X' H' a' c' hB hG⟩
 | .join t u,hf=>by
   intro X H p hole l a c nx cs Q h hne hn hs hq
   obtain ⟨a1,c1,b,d,pc,qc,rfl,h2,h3,h4⟩:=hn
   simp only [Ptn.items,List.length_append,List.length_cons,List.length_nil] at hs
   have hbu:=bld_len u nx l.length hf.2
   obtain ⟨n,o,e,hk⟩:=kid2 h2 h3 h4
   obtain ⟨g1,g2⟩:=hk H h.le
   have h3':=h3
   have h4':=h4
   obtain ⟨a2,n2,c2,b2,m2,d2,rfl⟩:=h3.three
   obtain ⟨a3,n3,c3,b3,m3,d3,rfl⟩:=h4.three
   refine fn37 ok ⟨fun _=>⟨trivial,⟨by decide,by decide⟩,n,o,e,_,_,_,_,_,_,_,g1,⟨by decide,by decide⟩,n,o,e,_,_,_,_,_,_,_,g2,?_⟩,fun q=>by simp at q⟩
   refine c37 u hf.2 X H p hole l a c nx _ _ h hne h4' (by omega) fun X1 H1 a1' c1' hB1 hG1=>⟨_,rfl,?_⟩
   obtain ⟨g3,_⟩:=hk H1 (hG1.le.trans hB1.le)
   refine ⟨⟨rfl,⟨rfl,rfl⟩,rfl,⟨⟨by decide,by decide⟩,n,o,e,rfl⟩,⟨_,_,_,_,_,_,_,g3,rfl⟩,trivial⟩,?_⟩
   have hl1:(l++(bld u nx l.length).1).length=l.length+(bld u nx l.length).1.length:=by simp
   refine c37 t hf.1 X1 H1 p hole _ a1' c1' _ _ _ hB1 (by simp [hne]) (h3'.mono hG1.le) (by rw [hl1]; omega) fun X2 H2 a2' c2' hB2 hG2=>⟨_,rfl,trivial,?_⟩
   rw [hl1] at hB2 ⊢
   exact hq X2 H2 a2' c2' (by rw [List.append_assoc] at hB2; exact hB2) (hG1.trans hG2 hB1.known hB2.xp fun q=>(hB2.out p q).2 rfl)
 | .alt t u,hf=>by
   intro X H p hole l a c nx cs Q h hne hn hs hq
   obtain ⟨a1,c1,b,d,pc,qc,rfl,h2,h3,h4⟩:=hn
   simp only [Ptn.items,List.length_append,List.length_cons,List.length_nil] at hs
   have hbt:=bld_len t nx l.length hf.1
   have hbu:=bld_len u nx (l.length+(bld t nx l.length).1.length) hf.2
   obtain ⟨n,o,e,hk⟩:=kid2 h2 h3 h4
   obtain ⟨g1,g2⟩:=hk H h.le
   have h3':=h3
   have h4':=h4
   obtain ⟨a2,n2,c2,b2,m2,d2,rfl⟩:=h3.three
   obtain ⟨a3,n3,c3,b3,m3,d3,rfl⟩:=h4.three
   refine fn37 ok ⟨fun q=>by simp at q,fun _=>⟨fun _=>⟨trivial,⟨by decide,by decide⟩,n,o,e,_,_,_,_,_,_,_,g1,⟨by decide,by decide⟩,n,o,e,_,_,_,_,_,_,_,g2,?_⟩,fun q=>by simp at q⟩⟩
   refine c37 t hf.1 X H p hole l a c nx _ _ h hne h3' (by omega) fun X1 H1 a1' c1' hB1 hG1=>⟨_,rfl,?_⟩
   obtain ⟨_,g3⟩:=hk H1 (hG1.le.trans hB1.le)
   refine ⟨⟨rfl,rfl,⟨rfl,rfl⟩,rfl,⟨⟨by decide,by decide⟩,n,o,e,rfl⟩,⟨_,_,_,_,_,_,_,g3,rfl⟩,rfl,trivial⟩,?_⟩
   have hl1:(l++(bld t nx l.length).1).length=l.length+(bld t nx l.length).1.length:=by simp
   refine c37 u hf.2 X1 H1 p hole _ a1' c1' _ _ _ hB1 (by simp [hne]) (h4'.mono hG1.le) (by rw [hl1]; omega) fun X2 H2 a2' c2' hB2 hG2=>⟨_,rfl,⟨rfl,trivial⟩,fun n67 h67=>?_⟩
   rw [hl1] at hB2 ⊢
   obtain ⟨hB3,hk3,hG3⟩:=hB2.lit (x:=((bld t nx l.length).2:Nat)) (y:=((bld u nx (l.length+(bld t nx l.length).1.length)).2:Nat)) h67
   have hGt:=hG3 (hG1.trans hG2 hB1.known hB2.xp fun q=>(hB2.out p q).2 rfl)
   have hl2:(l++(bld t nx l.length).1++(bld u nx (l.length+(bld t nx l.length).1.length)).1).length=l.length+(bld t nx l.length).1.length+(bld u nx (l.length+(bld t nx l.length).1.length)).1.length:=by simp; omega
   refine c34 ok (f:=[((bld t nx l.length).2:Nat),((bld u nx (l.length+(bld t nx l.length).1.length)).2:Nat)]) hB3 (.inr ⟨by simp [hne],hk3⟩) (by rw [hl2]; omega) fun H4 a4 hB4 hG4=>⟨_,rfl,trivial,?_⟩
   rw [hl2]
   exact hq _ H4 a4 unkU (by rw [show l++(bld (.alt t u) nx l.length).1=l++(bld t nx l.length).1++(bld u nx (l.length+(bld t nx l.length).1.length)).1++[forkS [((bld t nx l.length).2:Nat),((bld u nx (l.length+(bld t nx l.length).1.length)).2:Nat)]] by simp [bld]]; exact hB4) (hGt.trans hG4 hB3.known hB4.xp fun q=>(hB4.out p q).2 rfl)
 | .star t,hf=>by
   intro X H p hole l a c nx cs Q h hne hn hs hq
   obtain ⟨a1,c1,b,d,pc,rfl,h2,h3⟩:=hn
   simp only [Ptn.items,List.length_append,List.length_cons,List.length_nil] at hs
   obtain ⟨n,o,e,hk⟩:=kid1 h2 h3
   have g1:=hk H h.le
   have h3':=h3
   obtain ⟨a2,n2,c2,b2,m2,d2,rfl⟩:=h3.three
   refine fn37 ok ⟨fun q=>by simp at q,fun _=>⟨fun q=>by simp at q,fun _=>⟨fun _=>⟨⟨by decide,by decide⟩,n,o,e,_,_,_,_,_,_,_,g1,?_⟩,fun q=>by simp at q⟩⟩⟩
   exact c60 ok (c37 t hf) hf h hne h3' (by omega) fun X' H' a' c' hB hG=>⟨_,_,rfl,hq X' H' a' c' hB hG⟩
 | .plus t,hf=>by
   intro X H p hole l a c nx cs Q h hne hn hs hq
   obtain ⟨a1,c1,b,d,pc,rfl,h2,h3⟩:=hn
   simp only [Ptn.items,List.length_append,List.length_cons,List.length_nil] at hs
   obtain ⟨n,o,e,hk⟩:=kid1 h2 h3
   have g1:=hk H h.le
   have h3':=h3
   obtain ⟨a2,n2,c2,b2,m2,d2,rfl⟩:=h3.three
   refine fn37 ok ⟨fun q=>by simp at q,fun _=>⟨fun q=>by simp at q,fun _=>⟨fun q=>by simp at q,fun _=>⟨fun _=>⟨⟨by decide,by decide⟩,n,o,e,_,_,_,_,_,_,_,g1,?_⟩,fun q=>by simp at q⟩⟩⟩⟩
   exact c60 ok (c37 t hf) hf h hne h3' (by omega) fun X' H' a' c' hB hG=>⟨_,_,rfl,hq X' H' a' c' hB hG⟩
 | .may t,hf=>by
   intro X H p hole l a c nx cs Q h hne hn hs hq
   obtain ⟨a1,c1,b,d,pc,rfl,h2,h3⟩:=hn
   simp only [Ptn.items,List.length_append,List.length_cons,List.length_nil] at hs
   have hbt:=bld_len t nx l.length hf
   obtain ⟨n,o,e,hk⟩:=kid1 h2 h3
   have g1:=hk H h.le
   have h3':=h3
   obtain ⟨a2,n2,c2,b2,m2,d2,rfl⟩:=h3.three
   refine fn37 ok ⟨fun q=>by simp at q,fun _=>⟨fun q=>by simp at q,fun _=>⟨fun q=>by simp at q,fun _=>⟨fun q=>by simp at q,fun _=>⟨fun _=>⟨⟨by decide,by decide⟩,n,o,e,_,_,_,_,_,_,_,g1,?_⟩,fun q=>by simp at q⟩⟩⟩⟩⟩
   refine c37 t hf X H p hole l a c nx _ _ h hne h3' (by omega) fun X1 H1 a1' c1' hB1 hG1=>⟨_,rfl,fun n109 h109=>?_⟩
   obtain ⟨hB3,hk3,hG3⟩:=hB1.lit (x:=((bld t nx l.length).2:Nat)) (y:=(nx:Nat)) h109
   have hl1:(l++(bld t nx l.length).1).length=l.length+(bld t nx l.length).1.length:=by simp
   refine c34 ok (f:=[((bld t nx l.length).2:Nat),(nx:Nat)]) hB3 (.inr ⟨by simp [hne],hk3⟩) (by rw [hl1]; omega) fun H4 a4 hB4 hG4=>⟨_,rfl,?_⟩
   rw [hl1]
   exact hq _ H4 a4 unkU (by rw [show l++(bld (.may t) nx l.length).1=l++(bld t nx l.length).1++[forkS [((bld t nx l.length).2:Nat),(nx:Nat)]] by simp [bld]]; exact hB4) ((hG3 hG1).trans hG4 hB3.known hB4.xp fun q=>(hB4.out p q).2 rfl)
theorem c35 {l:List It} {t:Ptn} {a:OA} {c:Nat} {H:KH} {Q:PQ} (hi:ItR H l a) (hl:l.length≤47) (hrg:∀ i∈l,i.2.length≤24) (hok:∀ i∈l,okIt i) (ht:stkM l []=some [t]) (htl:t.items=l)
 (hn:said t.text l=false→∀ H',Le H H'→Q (.tuple #[.agg #[.int .i64 0,.slice none 0 0,.slice none 0 0],.bool false]) H')
 (hq:said t.text l=true→∀ Y H' a1 n1 c1 a2 n2 c2,Le H Y→Le Y H'→NdC Y t [.int .i64 t.op,.slice a1 n1 c1,.slice a2 n2 c2]→Q (.tuple #[.agg #[.int .i64 t.op,.slice a1 n1 c1,.slice a2 n2 c2],.bool true]) H'):Does (env Tryz.prog) 35 [.slice a l.length c] H Q:=by
 have hfit:t.fit:=fit_of t (by rw [htl]; exact hrg)
 refine fn35 ok (c57 ok hi hl hrg hok ht fun Y H2 a1 n1 c1 a2 n2 c2 y1 y2 y3=>⟨_,_,_,_,_,_,_,_,rfl,fun q=>(by cases q),fun _=>?_⟩)
 refine c59 ok t hfit (by rw [htl]; omega) H2 _ _ (y3.mono y2) fun H12 l12=>⟨_,rfl,c58 ok (hi.mono ((y1.trans y2).trans l12)) fun H15 l15=>⟨_,rfl,fun q=>?_,fun q=>?_⟩⟩
 ·have q:said t.text l=false:=by simpa using q
  exact hn q H15 ((y1.trans y2).trans (l12.trans l15))
 ·have q:said t.text l=true:=by simpa using q
  exact hq q Y H15 a1 n1 c1 a2 n2 c2 y1 (y2.trans (l12.trans l15)) y3
end
end Va
end Go.Proofs.YtfhjkkbaghanhaaGreat
set_option linter.unusedVariables false
set_option linter.unusedSimpArgs false
namespace Go.Ew
open Go.Ev Go.Deep
theorem Does.only {E:Env} {g:Nat} {args:List Value} {X H:KH} {Q:PQ} (hl:Le X H) (h:Does E g args X fun v X'=>∀ H',Le X' H'→(∀ k e,H k=some e→X k=none→H' k=some e∧X' k=none)→Q v H'):Does E g args H Q:=by
 refine ⟨h.lt,fun hp wf know=>?_⟩
 obtain ⟨v,h',X',h1,h2,h3,h4,h5,h6,h7⟩:=h.run hp wf fun k e q=>know k e (hl k e q)
 have hin:∀ k e,H k=some e→k<hp.nxt:=fun k e q=>by
  rcases Nat.lt_or_ge k hp.nxt with z | z
  ·exact z
  ·have:=know k e q; rw [wf k z] at this; cases this
 have hX':∀ k e,H k=some e→X k=none→X' k=none:=fun k e q1 q2=>by
  cases hx:X' k with
  | none=>rfl
  | some e' =>
    rcases h7 k (by rw [hx]; simp) with z | z
    ·exact absurd q2 z
    ·have:=hin k e q1; omega
 refine ⟨v,h',fun k=>match H k,X k with | some e,none=>some e | _,_=>X' k,h1,h2 _ (fun k e q=>?_) (fun k e q1 q2=>⟨by simp only [q1,q2],hX' k e q1 q2⟩),h3,fun k e q=>?_,h5,fun k q1 q2=>h6 k q1 (hl.none q2),fun k q=>?_⟩
 ·show (match H k,X k with | some e,none=>some e | _,_=>X' k:Option Ent)=some e
  split
  ·rename_i e0 hk hx
   rw [hX' k e0 hk hx] at q; cases q
  ·exact q
 ·have q:(match H k,X k with | some e,none=>some e | _,_=>X' k:Option Ent)=some e:=q
  split at q
  ·rename_i e0 hk hx
   cases q
   rw [h6 k (hin k _ hk) hx]
   exact know k _ hk
  ·exact h4 k e q
 ·have q:(match H k,X k with | some e,none=>some e | _,_=>X' k:Option Ent)≠none:=q
  split at q
  ·rename_i e0 hk hx
   left; rw [hk]; simp
  ·rcases h7 k q with z | z
   ·left
    cases hx:X k with
    | none=>exact absurd hx z
    | some e=>rw [hl k e hx]; simp
   ·exact .inr z
def PtC (X:KH):List (List It)→List Value→Prop
 | [],cs=>cs=[]
 | l :: r,cs=>∃ a c ds,cs = .slice a l.length c :: ds∧(ItR X l a∧SlOk X 2 a l.length c)∧PtC X r ds
def PtR (H:KH) (pats:List (List It)) (a:OA):Prop:=∃ cs,kold H 1 a pats.length=some cs∧PtC H pats cs
theorem PtC.mono {X Y:KH} (hl:Le X Y):∀ {l:List (List It)} {cs:List Value},PtC X l cs→PtC Y l cs
 | [],cs,h=>h
 | s :: r,cs,⟨a,c,ds,h1,h2,h3⟩=>⟨a,c,ds,h1,⟨h2.1.mono hl,h2.2.mono hl⟩,h3.mono hl⟩
theorem PtR.mono {X Y:KH} (hl:Le X Y) {l:List (List It)} {a:OA} (h:PtR X l a):PtR Y l a:=by
 obtain ⟨cs,h1,h2⟩:=h
 exact ⟨cs,hl.kold h1,h2.mono hl⟩
theorem PtC.get {X:KH}:∀ {l:List (List It)} {cs:List Value} {k:Nat} {i:List It},PtC X l cs→l[k]? = some i→∃ a c,cs[k]? = some (.slice a i.length c)∧ItR X i a
 | [],cs,k,i,h,hk=>by simp at hk
 | s :: r,cs,0,i,⟨a,c,ds,h1,h2,h3⟩,hk=>by
   have hk:s=i:=by simpa using hk
   subst hk; subst h1
   exact ⟨a,c,rfl,h2.1⟩
 | s :: r,cs,k+1,i,⟨a,c,ds,h1,h2,h3⟩,hk=>by
   subst h1
   have hk:r[k]? = some i:=by simpa using hk
   obtain ⟨a',c',q1,q2⟩:=PtC.get h3 hk
   exact ⟨a',c',by simpa using q1,q2⟩
def treeD (l:List It):Ptn:=match stkM l [] with
 | some [t]=>t
 | _=>.cls []
structure GoodP (l:List It):Prop where
 st:stkM l []=some [treeD l]
 it:(treeD l).items=l
 ln:l.length≤47
 rg:∀ i∈l,i.2.length≤24
 ok:∀ i∈l,okIt i
def endS (k:Nat):St:=⟨0,0,-1,[],((k+1:Nat):Int)⟩
def ofM:List (List It)→Nat→List Int→List St→List Int × List St
 | [],_,f,tl=>(f,tl)
 | l :: ts,k,f,tl=>ofM ts (k+1) (f++[((bld (treeD l) (tl.length+1) (tl.length+2)).2:Int)]) (tl++endS k :: (bld (treeD l) (tl.length+1) (tl.length+2)).1)
def nfaM (pats:List (List It)):List St:=forkS (ofM pats 0 [] []).1 :: (ofM pats 0 [] []).2
def SsN (H:KH) (l:List St) (a:OA):Prop:=∃ cs,kold H 5 a l.length=some cs∧SsR H l cs
end Go.Ew
namespace Go.Proofs.YtfhjkkbaghanhaaGreat
open Go.Ev Go.Ew
namespace Va
section
variable (ok : EnvOk (env Tryz.prog))
include ok
theorem c23 {pats:List (List It)} {a:OA} {c:Nat} {H:KH} {Q:PQ} (hp:PtR H pats a) (hg:∀ l∈pats,GoodP l) (hs:pats.length≤50)
 (hn:(∃ l∈pats,said (treeD l).text l=false)→∀ H',Le H H'→Q (.slice none 0 0) H')
 (hq:(∀ l∈pats,said (treeD l).text l=true)→∀ a' c' H',Le H H'→SsN H' (nfaM pats) a'→Q (.slice a' (nfaM pats).length c') H'):Does (env Tryz.prog) 23 [.slice a pats.length c] H Q:=by
 refine fn23 ok fun n1 h1=>?_
 have l1:Le H (H.new n1 (mkEnt [.slice none 0 0] 0)):=Le.new h1
 have hB0:Bu H (H.new n1 (mkEnt [.slice none 0 0] 0)) n1 (none,0) [] none 0:=⟨l1,h1,⟨_,if_pos rfl,rfl,rd_some rfl fun j v hv=>by rw [Nat.zero_add]; simp only [mkEnt,tget_wr_nil]; exact hv⟩,⟨[],.nil,rfl⟩,fun b q=>by cases q⟩
 refine c34 ok (f:=[]) (af:=none) (cf:=0) hB0 (.inl ⟨rfl,rfl⟩) (by simp) fun H3 a3 hB3 hG3=>⟨_,rfl,?_⟩
 unfold vc23_L2
 refine ⟨fun n3 n4 n5 x6 a7 n8 n9 x10 x11 H12=>n4=n1∧n5=0∧x6=0∧a7=a∧n8=pats.length∧x10=(pats.length:Nat)∧∃ (k:Nat) (f:List Int) (tl:List St) (a1:OA) (c1:Nat) (af:OA) (cf:Nat) (X:KH),x11=k∧k≤pats.length∧n3=pats.length-k∧Le H X∧Bu X H12 n1 (af,cf) (forkS f :: tl) a1 c1∧Gr H12 1 af f.length cf (inC f) []∧(∀ b,blk af=some b→X b=none∧b≠n1∧blk a1≠some b)∧ofM pats 0 [] []=ofM (pats.drop k) k f tl∧(∀ l∈pats.take k,said (treeD l).text l=true)∧tl.length≤k*1300∧f.length=k,
  ⟨pats.length,rfl,rfl,rfl,rfl,rfl,rfl,rfl,0,[],[],a3,unkU,none,0,H,rfl,by omega,rfl,Le.refl _,hB3,.nil,(fun b q=>by cases q),rfl,by simp,by simp,rfl⟩,?_⟩
 rintro n3 n4 n5 x6 a7 n8 n9 x10 x11 H12 ⟨rfl,rfl,rfl,rfl,rfl,rfl,k,f,tl,a1,c1,af,cf,X,rfl,hk,rfl,hHX,hB,hF,hFo,hof,hsd,htl,hfk⟩
 refine ⟨fun hlt=>?_,fun hge=>?_⟩
 ·have hlt:k<pats.length:=by have:=of_decide_eq_true hlt; omega
  have e0:Int.toNat ((k:Nat):Int)=k:=by omega
  obtain ⟨pc,pk,pcs⟩:=hp
  obtain ⟨ai,ci,g1,g2⟩:=pcs.get (k:=k) (i:=pats[k]) (by simp [hlt])
  obtain ⟨b1,o1,e1,r1⟩:=rowAddr ((hHX.trans hB.le).kold pk) (by omega)
  have g3:=r1 (k*1) 1 (by omega)
  have e2:(pc.drop (k*1)).take 1=[.slice ai pats[k].length ci]:=dropTake rfl fun j hj=>by
   match j,hj with
   | 0,_=>simpa using g1
  rw [e2] at g3
  have hgp:=hg _ (List.getElem_mem hlt)
  have hmem:pats[k]∈pats:=List.getElem_mem hlt
  have htk:pats.take (k+1)=pats.take k++[pats[k]]:=List.take_succ_eq_append_getElem hlt
  rw [List.drop_eq_getElem_cons hlt,ofM] at hof
  generalize hpl:pats[k]=pl at *
  rw [e0]
  refine ⟨⟨by omega,by omega⟩,b1,o1,e1,ai,_,ci,g3,?_⟩
  refine Does.only hB.le (c35 ok (g2.mono hHX) hgp.ln hgp.rg hgp.ok hgp.st hgp.it (fun hno X' lx H7 l7 hrest=>⟨_,_,_,_,_,_,_,_,rfl,fun _=>hn ⟨pl,hmem,hno⟩ H7 ((hHX.trans lx).trans l7),fun q=>by cases q⟩) fun hyes Y X' a9 n10 c23' a12 n13 c24 y1 y2 y3 H7 l7 hrest=>⟨_,_,_,_,_,_,_,_,rfl,fun q=>(by cases q),fun _=>?_⟩)
  -- what else there was is as it was
  have hYX':∀ q,(∃ e,H12 q=some e)→X q=none→Y q=none:=fun q ⟨e,h1⟩ h2=>y2.none (hrest q e h1 h2).2
  have hpin:∃ e,H12 n4=some e:=by obtain ⟨e,z,_⟩:=hB.pt; exact ⟨e,z⟩
  have hain:∀ b,blk a1=some b→∃ e,H12 b=some e:=fun b q=>by
   obtain ⟨cs,z,_⟩:=hB.row
   exact z.at' q
  have hfin:∀ b,blk af=some b→∃ e,H12 b=some e:=fun b q=>hF.at' q
  have hB7:Bu Y H7 n4 (af,cf) (forkS f :: tl) a1 c1:=hB.agree y1 (y2.trans l7) (hYX' n4 hpin hB.xp) (fun b q=>hYX' b (hain b q) (hB.out b q).1) fun q e h1 h2=>by
   rcases h1 with h1 | h1
   ·exact (hrest q e h2 (by rw [h1]; exact hB.xp)).1
   ·exact (hrest q e h2 (hB.out q h1).1).1
  have hF7:Gr H7 1 af f.length cf (inC f) []:=hF.agree fun q e h1 h2=>(hrest q e h2 (hFo q h1).1).1
  have hFo7:∀ b,blk af=some b→Y b=none∧b≠n4∧blk a1≠some b:=fun b q=>⟨hYX' b (hfin b q) (hFo b q).1,(hFo b q).2⟩
  have hw:IntKind.wrap .i64 (((k:Nat):Int)+1)=((k+1:Nat):Int):=by rw [wrap64 (by omega) (by omega)]; omega
  rw [hw]
  have hfit:(treeD pl).fit:=fit_of _ (by rw [hgp.it]; exact hgp.rg)
  have hln:(treeD pl).items.length≤47:=by rw [hgp.it]; exact hgp.ln
  refine c36 ok (s:=endS k) (af:=none) (cf:=0) hB7 (.inr ⟨by simp,rfl⟩) (by simp; omega) fun H2 a2 hB2 hG2=>⟨_,rfl,?_⟩
  have hl2:(forkS f :: tl++[endS k]).length=tl.length+2:=by simp
  have hl2':(forkS f :: tl).length=tl.length+1:=by simp
  rw [hl2']
  refine c37 ok (treeD pl) hfit Y H2 n4 _ _ a2 unkU (tl.length+1) _ _ hB2 (by simp) y3 (by rw [hl2]; omega) fun X5 H5 a5 c5 hB5 hG5=>⟨_,rfl,?_⟩
  rw [hl2] at hB5 ⊢
  have hGt:=hG2.trans hG5 hB2.known hB5.xp fun q=>(hB5.out n4 q).2 rfl
  have hbl:=bld_len (treeD pl) (tl.length+1) (tl.length+2) hfit
  generalize hr:bld (treeD pl) (tl.length+1) (tl.length+2)=r at *
  have hF5:Gr H5 1 af f.length cf (inC f) []:=hF7.agree fun q e h1 h2=>hGt.fr q e h2 (hFo7 q h1).2.1 (hFo7 q h1).2.2
  have hFo5:∀ b,blk af=some b→X5 b=none∧b≠n4∧blk a5≠some b:=fun b q=>by
   obtain ⟨e,z⟩:=hF7.at' q
   refine ⟨?_,(hFo7 b q).2.1,fun u=>?_⟩
   ·rcases none_or X5 b with u | ⟨e',u⟩
    ·exact u
    ·rcases hGt.nw b (by rw [u]; simp) with v | v | v
     ·exact absurd (hFo7 b q).1 v
     ·rw [z] at v; cases v
     ·exact absurd v (hFo7 b q).2.2
   ·rcases hGt.fresh b u with v | v
    ·exact (hFo7 b q).2.2 v
    ·rw [z] at v; cases v
  obtain ⟨cells,s1,s2⟩:=hB5.row
  obtain ⟨ds,t1,t2⟩:=s2
  have hls:(forkS f :: tl++[endS k]++r.1).length=tl.length+2+r.1.length:=by simp; omega
  obtain ⟨bb,ha5⟩:∃ bb,a5=some ⟨bb,0,none⟩:=by
   generalize hN:(forkS f :: tl++[endS k]++r.1).length=N at *
   cases s1 with
   | nil=>omega
   | on b _ e _ _ q1 q2 q3 q4 q5 q6=>exact ⟨b,rfl⟩
  subst ha5
  have hcells:cells=[.int .u8 0,.int .u8 0,.int .i64 (-1)]++[.slice af f.length cf]++([.int .i64 0]++ds):=by
   rw [t1]; simp [stC,forkS]
  rw [hcells] at s1
  obtain ⟨_,q2,_⟩:=s1.put (o:=3) (vs:=[.slice none 0 0]) rfl rfl
  have q2:ld H5 ⟨bb,0+Int.toNat 0*5+3,none⟩ [.slice af f.length cf]:=q2
  refine ⟨trivial,rfl,_,_,c5,hB5.c0,rfl,_,_,c5,hB5.c0,⟨by decide,by rw [hls]; omega⟩,bb,0,rfl,rfl,af,_,cf,q2,fun n18 h18 n19 h19=>?_⟩
  have l18:=Le.new (e:=mkEnt [.int .i64 ((r.2:Nat):Int)] 0) h18
  obtain ⟨a',H',ex',f1,f2,f3,f4,f5⟩:=(hF5.agree fun q e _ z=>l18 q e z).append (ti:=IT1) (new:=[.int .i64 ((r.2:Nat):Int)]) h19 rfl (by omega) (by decide) (by decide)
  have hx:=f3 rfl
  subst hx
  have h19':H5 n19=none:=l18.none h19
  have kept:∀ q e,H5 q=some e→blk af≠some q→H' q=some e:=fun q e z1 z2=>f4 q e (l18 q e z1) z2
  have hB':Bu X5 H' n4 (af,cf) (forkS f :: tl++[endS k]++r.1) (some ⟨bb,0,none⟩) c5:=hB5.agree (Le.refl _) (fun q e z=>kept q e (hB5.le q e z) fun u=>by rw [(hFo5 q u).1] at z; cases z) hB5.xp (fun b q=>(hB5.out b q).1) fun q e z1 z2=>kept q e z2 fun u=>by
   rcases z1 with z1 | z1
   ·exact (hFo5 q u).2.1 z1
   ·exact (hFo5 q u).2.2 z1
  have s1':=s1.agree (H':=H') fun q e z1 z2=>kept q e z2 fun u=>(hFo5 q u).2.2 z1
  obtain ⟨p1,p2,p3⟩:=s1'.put (o:=3) (vs:=[.slice a' (f.length+1) unkU]) rfl rfl
  have p2:ld H' ⟨bb,0+Int.toNat 0*5+3,none⟩ [.slice af f.length cf]:=p2
  have hbo:=hB5.out bb rfl
  have ha'o:∀ b,blk a'=some b→X5 b=none∧b≠n4∧b≠bb:=fun b q=>by
   rcases f5 b q with u | u
   ·exact ⟨(hFo5 b u).1,(hFo5 b u).2.1,fun v=>(hFo5 b u).2.2 (by rw [v]; rfl)⟩
   ·rw [u]
    refine ⟨hB5.le.none h19',fun v=>hB5.known (by rw [← v]; exact h19'),fun v=>?_⟩
    obtain ⟨e,w⟩:=s1.at' (b:=bb) rfl
    rw [← v,h19'] at w; cases w
  refine ⟨1,_,knew_of (lit_kold (if_pos rfl) rfl),a',_,_,H',f1,⟨⟨rfl,rfl⟩,⟨_,_,c5,hB'.c0,rfl⟩,rfl,trivial⟩,⟨by decide,by rw [hls]; omega⟩,bb,0,rfl,rfl,stOk p2 rfl,p3,trivial,pats.length-(k+1),by omega,rfl,rfl,rfl,rfl,rfl,rfl,rfl,k+1,f++[((r.2:Nat):Int)],tl++endS k :: r.1,some ⟨bb,0,none⟩,c5,a',unkU,X5,rfl,by omega,rfl,(hHX.trans y1).trans hGt.le,?_,?_,fun b q=>⟨(ha'o b q).1,(ha'o b q).2.1,fun v=>(ha'o b q).2.2 (by cases v; rfl)⟩,?_,?_,?_,by simp [hfk]⟩
  ·obtain ⟨ep,z1,z2,z3⟩:=hB'.pt
   have hll:(forkS (f++[((r.2:Nat):Int)]) :: (tl++endS k :: r.1)).length=(forkS f :: tl++[endS k]++r.1).length:=by simp
   refine ⟨fun q e z=>put_ne (fun x=>by rw [x,hbo.1] at z; cases z) (hB'.le q e z),hB'.xp,⟨ep,put_ne hbo.2.symm z1,z2,by rw [hll]; exact z3⟩,⟨_,by rw [hll]; exact p1,ds,by simp [stC,forkS],?_⟩,hB'.out⟩
   have:tl++endS k :: r.1=tl++[endS k]++r.1:=by simp
   rw [this]; exact t2
  ·have e3:inC (f++[((r.2:Nat):Int)])=inC f++[.int .i64 ((r.2:Nat):Int)]:=by simp [inC]
   have e4:(f++[((r.2:Nat):Int)]).length=f.length+1:=by simp
   rw [e3,e4]
   exact f2.agree fun q e z1 z2=>put_ne (ha'o q z1).2.2 z2
  ·rw [hof]
  ·rw [htk]
   intro l hl
   rcases List.mem_append.1 hl with hl | hl
   ·exact hsd l hl
   ·have:l=pl:=by simpa using hl
    rw [this]; exact hyes
  ·simp only [List.length_append,List.length_cons]; omega
 ·have hge:k=pats.length:=by have:=of_decide_eq_false hge; omega
  subst hge
  rw [List.take_length] at hsd
  rw [List.drop_length] at hof
  have hof:ofM pats 0 [] []=(f,tl):=hof
  have hm:nfaM pats=forkS f :: tl:=by unfold nfaM; rw [hof]
  rw [hm] at hq
  obtain ⟨cs,s1,s2⟩:=hB.row
  obtain ⟨ds,t1,t2⟩:=s2
  refine ⟨rfl,a1,_,c1,hB.c0,hq hsd a1 c1 H12 (hHX.trans hB.le) ⟨cs,s1.row,af,cf,ds,t1,hF.row,t2.mono hB.le⟩⟩
end
end Va
end Go.Proofs.YtfhjkkbaghanhaaGreat
