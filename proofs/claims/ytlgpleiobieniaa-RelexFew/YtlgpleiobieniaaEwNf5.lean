import Derived.Test.YtlgpleiobieniaaEwVc3
set_option linter.unusedVariables false
set_option linter.unusedSimpArgs false
namespace Go.Ew
open Go.Ev Go.Deep
structure St where
 lo:Int
 hi:Int
 next:Int
 free:List Int
 e:Int
abbrev ST5:TI:=⟨5,48,true,3,0,0,[(0,1),(1,1),(2,1),(3,1),(4,1)],[.int .u8 0,.int .u8 0,.int .i64 0,.slice none 0 0,.int .i64 0]⟩
abbrev IT1:TI:=⟨1,8,false,5,0,0,[],[.int .i64 0]⟩
def inC (l:List Int):List Value:=l.map (Value.int .i64)
def stC (s:St) (a:OA) (c:Nat):List Value:=[.int .u8 s.lo,.int .u8 s.hi,.int .i64 s.next,.slice a s.free.length c,.int .i64 s.e]
def SsR (X:KH):List St->List Value->Prop
 | [],cs=>cs=[]
 | s :: r,cs=>∃ a c ds,cs=stC s a c++ds/\kold X 1 a s.free.length=some (inC s.free)/\SsR X r ds
theorem SsR.mono {X Y:KH} (hl:Le X Y):∀ {l:List St} {cs:List Value},SsR X l cs->SsR Y l cs
 | [],cs,h=>h
 | s :: r,cs,⟨a,c,ds,h1,h2,h3⟩=>⟨a,c,ds,h1,hl.kold h2,h3.mono hl⟩
theorem SsR.len {X:KH}:∀ {l:List St} {cs:List Value},SsR X l cs->cs.length=l.length*5
 | [],cs,h=>by
   have h:cs=[]:=h
   subst h; rfl
 | s :: r,cs,⟨a,c,ds,h1,h2,h3⟩=>by
   have:=h3.len
   subst h1
   simp only [List.length_append,List.length_cons,stC,List.length_nil]
   omega
theorem SsR.app {X:KH}:∀ {l m:List St} {cs ds:List Value},SsR X l cs->SsR X m ds->SsR X (l++m) (cs++ds)
 | [],m,cs,ds,h,k=>by
   have h:cs=[]:=h
   subst h; exact k
 | s :: r,m,cs,ds,⟨a,c,es,h1,h2,h3⟩,k=>⟨a,c,es++ds,by rw [h1,List.append_assoc],h2,h3.app k⟩
theorem SsR.split {X:KH}:∀ {l m:List St} {cs:List Value},SsR X (l++m) cs->∃ c1 c2,cs=c1++c2/\SsR X l c1/\SsR X m c2
 | [],m,cs,h=>⟨[],cs,rfl,rfl,h⟩
 | s :: r,m,cs,⟨a,c,es,h1,h2,h3⟩=>by
   obtain ⟨c1,c2,q1,q2,q3⟩:=SsR.split h3
   exact ⟨stC s a c++c1,c2,by rw [h1,q1,List.append_assoc],⟨a,c,c1,rfl,h2,q2⟩,q3⟩
def SsC (X:KH) (hole:OA × Nat):List St->List Value->Prop
 | [],cs=>cs=[]
 | s :: r,cs=>∃ ds,cs=stC s hole.1 hole.2++ds/\SsR X r ds
theorem SsC.mono {X Y:KH} {hole:OA × Nat} (hl:Le X Y):∀ {l:List St} {cs:List Value},SsC X hole l cs->SsC Y hole l cs
 | [],cs,h=>h
 | s :: r,cs,⟨ds,h1,h2⟩=>⟨ds,h1,h2.mono hl⟩
theorem SsC.app {X:KH} {hole:OA × Nat} {l m:List St} {cs ds:List Value} (hne:l≠[]) (h:SsC X hole l cs) (k:SsR X m ds):SsC X hole (l++m) (cs++ds):=by
 match l,hne,h with
 | s :: r,_,⟨es,h1,h2⟩=>exact ⟨es++ds,by rw [h1,List.append_assoc],h2.app k⟩
theorem SsC.split {X:KH} {hole:OA × Nat} {l m:List St} {cs:List Value} (hne:l≠[]) (h:SsC X hole (l++m) cs):∃ c1 c2,cs=c1++c2/\SsC X hole l c1/\SsR X m c2:=by
 match l,hne,h with
 | s :: r,_,⟨es,h1,h2⟩ =>
   obtain ⟨c1,c2,q1,q2,q3⟩:=SsR.split h2
   exact ⟨stC s hole.1 hole.2++c1,c2,by rw [h1,q1,List.append_assoc],⟨c1,rfl,q2⟩,q3⟩
theorem SsC.len {X:KH} {hole:OA × Nat}:∀ {l:List St} {cs:List Value},SsC X hole l cs->cs.length=l.length*5
 | [],cs,h=>by
   have h:cs=[]:=h
   subst h; rfl
 | s :: r,cs,⟨ds,h1,h2⟩=>by
   have:=h2.len
   subst h1
   simp only [List.length_append,List.length_cons,stC,List.length_nil]
   omega
structure Bu (X H:KH) (p:Nat) (hole:OA × Nat) (l:List St) (a:OA) (c:Nat):Prop where
 le:Le X H
 xp:X p=none
 pt:∃ e,H p=some e/\wrB e=true/\rd e.cells 0 1=some [.slice a l.length c]
 row:∃ cs,Gr H 5 a l.length c cs []/\SsC X hole l cs
 out:∀ b,blk a=some b->X b=none/\b≠p
theorem Bu.c0 {X H:KH} {p:Nat} {hole:OA × Nat} {l:List St} {a:OA} {c:Nat} (h:Bu X H p hole l a c):ld H ⟨p,0,none⟩ [.slice a l.length c]:=by
 obtain ⟨e,h1,h2,h3⟩:=h.pt
 exact ⟨rfl,e,h1,h3⟩
theorem Bu.agree {X Y H H':KH} {p:Nat} {hole:OA × Nat} {l:List St} {a:OA} {c:Nat} (h:Bu X H p hole l a c) (hl:Le X Y) (hY:Le Y H') (hp:Y p=none) (ho:∀ b,blk a=some b->Y b=none) (hk:∀ k e,(k=p\/blk a=some k)->H k=some e->H' k=some e):Bu Y H' p hole l a c:=by
 obtain ⟨e,h1,h2,h3⟩:=h.pt
 obtain ⟨cs,r1,r2⟩:=h.row
 exact ⟨hY,hp,⟨e,hk p e (.inl rfl) h1,h2,h3⟩,⟨cs,r1.agree fun k e q1 q2=>hk k e (.inr q1) q2,r2.mono hl⟩,fun b q=>⟨ho b q,(h.out b q).2⟩⟩
structure Gw (X H X' H':KH) (p:Nat) (a a':OA):Prop where
 le:Le X X'
 fr:∀ k e,H k=some e->k≠p->blk a≠some k->H' k=some e
 fresh:∀ b,blk a'=some b->blk a=some b\/H b=none
 nw:∀ k,X' k≠none->X k≠none\/H k=none\/blk a=some k
theorem Gw.refl (X H:KH) (p:Nat) (a:OA):Gw X H X H p a a:=⟨Le.refl _,fun _ _ q _ _=>q,fun _ q=>.inl q,fun _ q=>.inl q⟩
theorem none_or (H:KH) (k:Nat):H k=none\/∃ e,H k=some e:=by
 cases H k with
 | none=>exact .inl rfl
 | some e=>exact .inr ⟨e,rfl⟩
theorem Gw.trans {X H X1 H1 X2 H2:KH} {p:Nat} {a a1 a2:OA} (g:Gw X H X1 H1 p a a1) (k:Gw X1 H1 X2 H2 p a1 a2) (hp:H1 p≠none) (hx2:X2 p=none) (hap:blk a2≠some p):Gw X H X2 H2 p a a2:=by
 have key:∀ q e,H q=some e->q≠p->blk a≠some q->H1 q=some e/\blk a1≠some q:=fun q e h1 h2 h3=>⟨g.fr q e h1 h2 h3,fun x=>by
  rcases g.fresh q x with y | y
  .exact h3 y
  .rw [h1] at y; cases y⟩
 refine ⟨g.le.trans k.le,fun q e h1 h2 h3=>?_,fun b h=>?_,fun q h=>?_⟩
 .obtain ⟨u1,u2⟩:=key q e h1 h2 h3
  exact k.fr q e u1 h2 u2
 .rcases none_or H b with y | ⟨e,y⟩
  .exact .inr y
  .rcases k.fresh b h with x | x
   .exact g.fresh b x
   .by_cases hb:blk a=some b
    .exact .inl hb
    .have hbp:b≠p:=fun q=>hap (by rw [h,q])
     rw [(key b e y hbp hb).1] at x; cases x
 .rcases k.nw q h with x | x | x
  .exact g.nw q x
  .rcases none_or H q with y | ⟨e,y⟩
   .exact .inr (.inl y)
   .by_cases hb:blk a=some q
    .exact .inr (.inr hb)
    .have hqp:q≠p:=fun z=>h (by rw [z]; exact hx2)
     rw [(key q e y hqp hb).1] at x; cases x
  .rcases g.fresh q x with y | y
   .exact .inr (.inr y)
   .exact .inr (.inl y)
theorem Bu.push {X H:KH} {p:Nat} {hole:OA × Nat} {l:List St} {a:OA} {c:Nat} {s:St} {af:OA} {cf nm:Nat} (h:Bu X H p hole l a c) (hf:(l=[]/\hole=(af,cf))\/(l≠[]/\kold X 1 af s.free.length=some (inC s.free))) (hnm:H nm=none) (hs:l.length<=200000) :
 ∃ a' H',kappend H nm ST5 a l.length c 1 (stC s af cf)=some (.slice a' (l.length+1) unkU,H')/\(∃ w:List Value,w.length=1/\ld H' ⟨p,0,none⟩ w)/\KH.may H' p/\Bu X (H'.put ⟨p,0,none⟩ [.slice a' (l.length+1) unkU]) p hole (l++[s]) a' unkU/\Gw X H X (H'.put ⟨p,0,none⟩ [.slice a' (l.length+1) unkU]) p a a':=by
 obtain ⟨ep,p1,p2,p3⟩:=h.pt
 obtain ⟨cs,r1,r2⟩:=h.row
 obtain ⟨a',H',ex',g1,g2,g3,g4,g5⟩:=r1.append (ti:=ST5) (new:=stC s af cf) hnm rfl (by omega) (by decide) (by decide)
 have hx:=g3 rfl
 subst hx
 have hpa:blk a≠some p:=fun q=>(h.out p q).2 rfl
 have hp':H' p=some ep:=g4 p ep p1 hpa
 have hX:Le X H':=fun k e q=>g4 k e (h.le k e q) fun x=>by rw [(h.out k x).1] at q; cases q
 have hnX:X nm=none:=h.le.none hnm
 have hnp:nm≠p:=fun x=>by rw [x,p1] at hnm; cases hnm
 have hout:∀ b,blk a'=some b->X b=none/\b≠p:=fun b q=>by
  rcases g5 b q with q | q
  .exact h.out b q
  .rw [q]; exact ⟨hnX,hnp⟩
 have hcell:SsC X hole (l++[s]) (cs++stC s af cf):=by
  rcases hf with ⟨q1,q2⟩ | ⟨q1,q2⟩
  .subst q1
   have r2:cs=[]:=r2
   subst r2
   refine ⟨[],?_,rfl⟩
   rw [q2]; rfl
  .exact r2.app q1 ⟨af,cf,[],rfl,q2,rfl⟩
 refine ⟨a',H',g1,⟨[.slice a l.length c],rfl,rfl,ep,hp',p3⟩,⟨ep,hp',p2⟩,⟨fun k e q=>put_ne (fun x=>by rw [x,h.xp] at q; cases q) (hX k e q),h.xp,⟨⟨wr ep.cells 0 [.slice a' (l.length+1) unkU],ep.len,ep.unk,none⟩,by simp only [KH.put,if_true,hp',Option.map_some],wrB_keep p2,?_⟩,⟨_,?_,hcell⟩,hout⟩,⟨Le.refl _,fun k e q1 q2 q3=>put_ne q2 (g4 k e q1 q3),fun b q=>(g5 b q).imp id fun q=>by rw [q]; exact hnm,fun k q=>.inl q⟩⟩
 .have:=rdWr (e:=ep.cells) (N:=1) (o:=0) (xs:=[]) (ys:=[.slice a l.length c]) (zs:=[]) (vs:=[.slice a' (l.length+1) unkU]) (by simpa using p3) rfl rfl
  simpa using this
 .have:=g2.agree (H':=H'.put ⟨p,0,none⟩ [.slice a' (l.length+1) unkU]) fun k e hk q=>put_ne (hout k hk).2 q
  simpa using this
def forkS (f:List Int):St:=⟨0,0,-1,f,0⟩
def clsS5 (nx:Nat) (r:Rg):St:=⟨r.1,r.2,(nx:Nat),[],0⟩
def bld:Ptn->Nat->Nat->List St × Nat
 | .cls L,nx,n=>if L.length=1 then (L.map (clsS5 nx),n) else (L.map (clsS5 nx)++[forkS ((List.range L.length).map fun k=>((n+k:Nat):Int))],n+L.length)
 | .join a b,nx,n=>((bld b nx n).1++(bld a (bld b nx n).2 (n+(bld b nx n).1.length)).1,(bld a (bld b nx n).2 (n+(bld b nx n).1.length)).2)
 | .alt a b,nx,n=>((bld a nx n).1++(bld b nx (n+(bld a nx n).1.length)).1++[forkS [((bld a nx n).2:Nat),((bld b nx (n+(bld a nx n).1.length)).2:Nat)]],n+(bld a nx n).1.length+(bld b nx (n+(bld a nx n).1.length)).1.length)
 | .star a,nx,n=>(forkS [((bld a n (n+1)).2:Nat),(nx:Nat)] :: (bld a n (n+1)).1,n)
 | .plus a,nx,n=>(forkS [((bld a n (n+1)).2:Nat),(nx:Nat)] :: (bld a n (n+1)).1,(bld a n (n+1)).2)
 | .may a,nx,n=>((bld a nx n).1++[forkS [((bld a nx n).2:Nat),(nx:Nat)]],n+(bld a nx n).1.length)
theorem bld_len:∀ (t:Ptn) (nx n:Nat),t.fit->(bld t nx n).1.length<=26*t.items.length/\n<=(bld t nx n).2/\(bld t nx n).2<=n+(bld t nx n).1.length
 | .cls L,nx,n,h=>by
   have h:L.length<=24:=h
   simp only [bld,Ptn.items]
   split
   .simp; omega
   .simp; omega
 | .join a b,nx,n,h=>by
   have h1:=bld_len b nx n h.2
   have h2:=bld_len a (bld b nx n).2 (n+(bld b nx n).1.length) h.1
   simp only [bld,Ptn.items,List.length_append,List.length_cons,List.length_nil]
   omega
 | .alt a b,nx,n,h=>by
   have h1:=bld_len a nx n h.1
   have h2:=bld_len b nx (n+(bld a nx n).1.length) h.2
   simp only [bld,Ptn.items,List.length_append,List.length_cons,List.length_nil]
   omega
 | .star a,nx,n,h=>by
   have h1:=bld_len a n (n+1) h
   simp only [bld,Ptn.items,List.length_append,List.length_cons,List.length_nil]
   omega
 | .plus a,nx,n,h=>by
   have h1:=bld_len a n (n+1) h
   simp only [bld,Ptn.items,List.length_append,List.length_cons,List.length_nil]
   omega
 | .may a,nx,n,h=>by
   have h1:=bld_len a nx n h
   simp only [bld,Ptn.items,List.length_append,List.length_cons,List.length_nil]
   omega
end Go.Ew
namespace Go.Proofs.Ytlgpleiobieniaa
open Go.Ev Go.Ew
namespace Va
section
variable (ok : EnvOk (env Try.prog))
include ok
theorem c28 {X H:KH} {p:Nat} {hole:OA × Nat} {l:List St} {a:OA} {c:Nat} {s:St} {af:OA} {cf:Nat} {Q:PQ} (h:Bu X H p hole l a c) (hf:(l=[]/\hole=(af,cf))\/(l≠[]/\kold X 1 af s.free.length=some (inC s.free))) (hs:l.length<=200000)
 (hq:∀ H' a',Bu X H' p hole (l++[s]) a' unkU->Gw X H X H' p a a'->Q (.int .i64 (l.length:Nat)) H'):Does (env Try.prog) 28 [.pointer (some ⟨p,0,none⟩),.agg (stC s af cf).toArray] H Q:=by
 refine fn28 ok ⟨trivial,rfl,a,_,c,h.c0,fun n4 h4 n5 h5=>?_⟩
 have hpn:n4≠p:=fun x=>by obtain ⟨e,q,_⟩:=h.pt; rw [x,q] at h4; cases h4
 have l1:Le H (H.new n4 (mkEnt (stC s af cf) 0)):=Le.new h4
 have h':Bu X (H.new n4 (mkEnt (stC s af cf) 0)) p hole l a c:=h.agree (Le.refl _) (h.le.trans l1) h.xp (fun b q=>(h.out b q).1) fun k e _ q=>l1 k e q
 obtain ⟨a',H',g1,g2,g3,g4,g5⟩:=h'.push (s:=s) (af:=af) (cf:=cf) hf h5 hs
 have hw:IntKind.wrap .i64 (((l.length+1:Nat):Int)-1)=((l.length:Nat):Int):=by rw [wrap64 (by omega) (by omega)]; omega
 refine ⟨1,_,knew_of (lit_kold (if_pos rfl) rfl),a',_,_,H',g1,⟨rfl,trivial⟩,rfl,g2,g3,trivial,rfl,a',_,unkU,g4.c0,?_⟩
 have hl:(l++[s]).length=l.length+1:=by simp
 rw [hl,hw]
 exact hq _ a' g4 ⟨Le.refl _,fun k e q1 q2 q3=>g5.fr k e (l1 k e q1) q2 q3,fun b q=>(g5.fresh b q).imp id fun q=>l1.none q,fun k q=>.inl q⟩
theorem c26 {X H:KH} {p:Nat} {hole:OA × Nat} {l:List St} {a:OA} {c:Nat} {f:List Int} {af:OA} {cf:Nat} {Q:PQ} (h:Bu X H p hole l a c) (hf:(l=[]/\hole=(af,cf))\/(l≠[]/\kold X 1 af f.length=some (inC f))) (hs:l.length<=200000)
 (hq:∀ H' a',Bu X H' p hole (l++[forkS f]) a' unkU->Gw X H X H' p a a'->Q (.int .i64 (l.length:Nat)) H'):Does (env Try.prog) 26 [.pointer (some ⟨p,0,none⟩),.slice af f.length cf] H Q :=
 fn26 ok (c28 ok (s:=forkS f) h hf hs fun H' a' h1 h2=>⟨_,rfl,hq H' a' h1 h2⟩)
end
end Va
end Go.Proofs.Ytlgpleiobieniaa
namespace Go.Ew
open Go.Ev Go.Deep
theorem Gr.put {H:KH} {sz n c b o:Nat} {xs ys zs ex vs:List Value} (h:Gr H sz (some ⟨b,0,none⟩) n c (xs++ys++zs) ex) (hx:xs.length=o) (hv:ys.length=vs.length):Gr (H.put ⟨b,o,none⟩ vs) sz (some ⟨b,0,none⟩) n c (xs++vs++zs) ex/\ld H ⟨b,o,none⟩ ys/\KH.may H b:=by
 cases h with
 | on b _ e _ _ h1 h2 h3 h4 h5 h6 =>
   have hlen:(xs++vs++zs).length=(xs++ys++zs).length:=by simp only [List.length_append]; omega
   have hlen2:(xs++vs++zs++ex).length=(xs++ys++zs++ex).length:=by simp only [List.length_append]; omega
   refine ⟨.on b n ⟨wr e.cells o vs,e.len,e.unk,none⟩ _ _ (by simp only [KH.put,if_true,h1,Option.map_some]) h2 (by rw [hlen2]; exact h3) ?_ (wrB_keep h5) (by rw [hlen]; exact h6),?_,⟨e,h1,h5⟩⟩
   .rw [hlen2]
    have:=rdWr (e:=e.cells) (N:=(xs++ys++zs++ex).length) (o:=o) (xs:=xs) (ys:=ys) (zs:=zs++ex) (vs:=vs) (by simpa using h4) hx hv
    simpa using this
   .have:=ldSub (H:=H) (b:=b) (o:=0) (cs:=xs++ys++zs++ex) ⟨rfl,e,h1,h4⟩ o ys.length (by simp; omega)
    rw [Nat.zero_add] at this
    have he:((xs++ys++zs++ex).drop o).take ys.length=ys:=by
     rw [<- hx]
     simp [List.append_assoc]
    rwa [he] at this
theorem Gw.none_ {X H X1 H1:KH} {p:Nat} {a a1:OA} (g:Gw X H X1 H1 p a a1) (hp:H1 p≠none) {k:Nat} (hk:H1 k=none):H k=none\/blk a=some k:=by
 rcases none_or H k with y | ⟨e,y⟩
 .exact .inl y
 .by_cases hb:blk a=some k
  .exact .inr hb
  .have hkp:k≠p:=fun z=>hp (by rw [<- z]; exact hk)
   rw [g.fr k e y hkp hb] at hk; cases hk
theorem Bu.known {X H:KH} {p:Nat} {hole:OA × Nat} {l:List St} {a:OA} {c:Nat} (h:Bu X H p hole l a c):H p≠none:=by
 obtain ⟨e,h1,_⟩:=h.pt
 rw [h1]; simp
theorem Gr.know {X H:KH} {sz n c:Nat} {a:OA} {cs:List Value} (h:Gr H sz a n c cs []) (hl:Le X H) (ho:∀ b,blk a=some b->X b=none):∃ Y,Le X Y/\Le Y H/\kold Y sz a n=some cs/\∀ k,Y k≠none->X k≠none\/blk a=some k:=by
 cases h with
 | nil=>exact ⟨X,Le.refl _,hl,rfl,fun k q=>.inl q⟩
 | on b _ e _ _ h1 h2 h3 h4 h5 h6 =>
   refine ⟨X.new b e,Le.new (ho b rfl),fun k e' q=>?_,kold_some.2 ⟨e,if_pos rfl,?_⟩,fun k q=>?_⟩
   .simp only [KH.new] at q
    split at q
    .rename_i hk; subst hk; cases q; exact h1
    .exact hl k e' q
   .rw [<- h6]; simpa using h4
   .simp only [KH.new] at q
    split at q
    .rename_i hk; exact .inr (by rw [hk]; rfl)
    .exact .inl q
theorem Bu.lit {X H:KH} {p:Nat} {hole:OA × Nat} {l:List St} {a:OA} {c n:Nat} {x y:Int} (h:Bu X H p hole l a c) (hn:H n=none):Bu (X.new n (mkEnt [.int .i64 x,.int .i64 y] 0)) (H.new n (mkEnt [.int .i64 x,.int .i64 y] 0)) p hole l a c/\kold (X.new n (mkEnt [.int .i64 x,.int .i64 y] 0)) 1 (some ⟨n,0,none⟩) 2=some (inC [x,y])/\∀ {X0 H0:KH} {a0:OA},Gw X0 H0 X H p a0 a->Gw X0 H0 (X.new n (mkEnt [.int .i64 x,.int .i64 y] 0)) (H.new n (mkEnt [.int .i64 x,.int .i64 y] 0)) p a0 a:=by
 have hXn:X n=none:=h.le.none hn
 have l1:=Le.new (e:=mkEnt [.int .i64 x,.int .i64 y] 0) hn
 have hnp:n≠p:=fun q=>h.known (by rw [<- q]; exact hn)
 have hna:∀ b,blk a=some b->b≠n:=fun b q z=>by
  obtain ⟨cs,r1,_⟩:=h.row
  obtain ⟨e,w⟩:=r1.at' q
  rw [z,hn] at w; cases w
 refine ⟨h.agree (Le.new hXn) (fun k e q=>?_) (by simp only [KH.new]; rw [if_neg (fun q=>hnp q.symm)]; exact h.xp) (fun b q=>?_) fun k e _ q=>l1 k e q,lit_kold (if_pos rfl) rfl,fun g=>⟨g.le.trans (Le.new hXn),fun k e q1 q2 q3=>l1 k e (g.fr k e q1 q2 q3),g.fresh,fun k q=>?_⟩⟩
 .simp only [KH.new] at q ⊢
  split at q
  .rename_i z; rw [if_pos z]; exact q
  .rename_i z; rw [if_neg z]; exact h.le k e q
 .simp only [KH.new]; rw [if_neg (hna b q)]; exact (h.out b q).1
 .simp only [KH.new] at q
  split at q
  .rename_i z
   subst z
   exact .inr (g.none_ h.known hn)
  .exact g.nw k q
def waysM (n k:Nat):List Int:=(List.range k).map fun j=>((n+j:Nat):Int)
theorem waysM_succ (n k:Nat):waysM n (k+1)=waysM n k++[((n+k:Nat):Int)]:=by
 unfold waysM
 rw [List.range_succ,List.map_append]; rfl
theorem waysM_len (n k:Nat):(waysM n k).length=k:=by simp [waysM]
end Go.Ew
namespace Go.Proofs.Ytlgpleiobieniaa
open Go.Ev Go.Ew
namespace Va
section
variable (ok : EnvOk (env Try.prog))
include ok
theorem c53 {X H:KH} {p:Nat} {hole:OA × Nat} {l:List St} {a:OA} {c nx:Nat} {L:List Rg} {ar:OA} {cr:Nat} {Q:PQ} (h:Bu X H p hole l a c) (hne:l≠[]) (hr:kold X 2 ar L.length=some (rgC L)) (hL:L.length<=24) (hs:l.length<=100000)
 (hq:∀ X' H' a' c',Bu X' H' p hole (l++(bld (.cls L) nx l.length).1) a' c'->Gw X H X' H' p a a'->Q (.int .i64 ((bld (.cls L) nx l.length).2:Nat)) H'):Does (env Try.prog) 53 [.pointer (some ⟨p,0,none⟩),.slice ar L.length cr,.int .i64 (nx:Nat)] H Q:=by
 refine fn53 ok ?_
 unfold vc53 vc53_L2
 refine ⟨fun n3 n4 n5 x6 a7 n8 n9 a10 n11 n12 x13 x14 H15=>n4=p/\n5=0/\x6=(nx:Nat)/\a10=ar/\n11=L.length/\x13=(L.length:Nat)/\∃ (k:Nat) (a1:OA) (c1:Nat),x14=k/\k<=L.length/\n3=L.length-k/\Bu X H15 p hole (l++(L.take k).map (clsS5 nx)) a1 c1/\Gw X H X H15 p a a1/\n8=k/\Gr H15 1 a7 k n9 (inC (waysM l.length k)) []/\∀ b,blk a7=some b->X b=none/\b≠p/\blk a1≠some b/\(H b=none\/blk a=some b),
  ⟨L.length,rfl,rfl,rfl,rfl,rfl,rfl,rfl,0,a,c,rfl,by omega,rfl,by simpa using h,Gw.refl _ _ _ _,rfl,.nil,fun b q=>by cases q⟩,?_⟩
 rintro n3 n4 n5 x6 a7 n8 n9 a10 n11 n12 x13 x14 H15 ⟨rfl,rfl,rfl,rfl,rfl,rfl,k,a1,c1,rfl,hk,rfl,hB,hG,rfl,hW,hWo⟩
 have hlen:(l++(L.take n8).map (clsS5 nx)).length=l.length+n8:=by simp; omega
 refine ⟨fun hlt=>?_,fun hge=>⟨fun h1=>?_,fun h1=>?_⟩⟩
 .have hlt:n8<L.length:=by have:=of_decide_eq_true hlt; omega
  have e0:Int.toNat ((n8:Nat):Int)=n8:=by omega
  obtain ⟨b1,o1,e1,r1⟩:=rowAddr (hB.le.kold hr) (by omega)
  have g1:=r1 (n8*2) 2 (by omega)
  rw [rgC_at (show L[n8]? = some L[n8] by simp [hlt])] at g1
  rw [e0]
  refine ⟨⟨by omega,by omega⟩,b1,o1,e1,_,_,g1,c28 ok (s:=clsS5 nx L[n8]) (af:=none) (cf:=0) hB (.inr ⟨by simp [hne],rfl⟩) (by rw [hlen]; omega) fun H6 a6 hB6 hG6=>⟨_,rfl,fun n81 h81 n91 h91=>?_⟩⟩
  rw [hlen] at h91 ⊢
  -- the row of ways is as it was
  have hW6:Gr H6 1 a7 n8 n9 (inC (waysM l.length n8)) []:=hW.agree fun k e q1 q2=>hG6.fr k e q2 (hWo k q1).2.1 (hWo k q1).2.2.1
  have ha6:∀ b,blk a7=some b->blk a6≠some b:=fun b q x=>by
   obtain ⟨e,q1⟩:=hW.at' q
   rcases hG6.fresh b x with y | y
   .exact (hWo b q).2.2.1 y
   .rw [q1] at y; cases y
  have l1:=Le.new (e:=mkEnt [.int .i64 ((l.length+n8:Nat):Int)] 0) h81
  obtain ⟨a',H',ex',f1,f2,f3,f4,f5⟩:=(hW6.agree fun k e _ q=>l1 k e q).append (ti:=IT1) (new:=[.int .i64 ((l.length+n8:Nat):Int)]) h91 rfl (by omega) (by decide) (by decide)
  have hx:=f3 rfl
  subst hx
  have hGt:=hG.trans hG6 hB.known hB6.xp (fun q=>(hB6.out n4 q).2 rfl)
  have hB':Bu X H' n4 hole (l++(L.take n8).map (clsS5 nx)++[clsS5 nx L[n8]]) a6 unkU:=by
   refine hB6.agree (Le.refl _) (fun k e q=>f4 k e (l1 k e (hB6.le k e q)) fun x=>by rw [(hWo k x).1] at q; cases q) hB6.xp (fun b q=>(hB6.out b q).1) fun k e q1 q2=>f4 k e (l1 k e q2) fun x=>?_
   rcases q1 with q1 | q1
   .exact (hWo k x).2.1 q1
   .exact ha6 k x q1
  have hlst:l++(L.take (n8+1)).map (clsS5 nx)=l++(L.take n8).map (clsS5 nx)++[clsS5 nx L[n8]]:=by
   rw [List.take_succ_eq_append_getElem hlt,List.map_append,List.append_assoc]; rfl
  have h9H6:H6 n91=none:=l1.none h91
  refine ⟨1,_,knew_of (lit_kold (if_pos rfl) rfl),a',_,_,H',f1,L.length-(n8+1),by omega,rfl,rfl,rfl,rfl,rfl,rfl,rfl,n8+1,a6,unkU,by rw [wrap64 (by omega) (by omega)]; omega,by omega,rfl,by rw [hlst]; exact hB',⟨Le.refl _,fun k e q1 q2 q3=>f4 k e (l1 k e (hGt.fr k e q1 q2 q3)) fun x=>?_,hGt.fresh,fun k q=>.inl q⟩,rfl,?_,fun b q=>?_⟩
  .rcases (hWo k x).2.2.2 with y | y
   .rw [q1] at y; cases y
   .exact q3 y
  .have:inC (waysM l.length (n8+1))=inC (waysM l.length n8)++[.int .i64 ((l.length+n8:Nat):Int)]:=by rw [waysM_succ]; simp [inC]
   rw [this]; exact f2
  .rcases f5 b q with q | q
   .exact ⟨(hWo b q).1,(hWo b q).2.1,ha6 b q,(hWo b q).2.2.2⟩
   .subst q
    refine ⟨hB6.le.none h9H6,fun x=>hB6.known (by rw [<- x]; exact h9H6),fun x=>?_,hGt.none_ hB6.known h9H6⟩
    obtain ⟨cs,r1,_⟩:=hB6.row
    obtain ⟨e,y⟩:=r1.at' x
    rw [h9H6] at y; cases y
 .have hge:n8=L.length:=by have:=of_decide_eq_false hge; omega
  subst hge
  have h1:L.length=1:=by have:=of_decide_eq_true h1; omega
  obtain ⟨b1,o1,e1,r1⟩:=rowAddr hW.row (by omega)
  have g1:=r1 0 1 (by omega)
  have g1:ld H15 ⟨b1,o1+Int.toNat 0*1,none⟩ [.int .i64 ((l.length:Nat):Int)]:=by
   have e:((inC (waysM l.length L.length)).drop 0).take 1=[.int .i64 ((l.length:Nat):Int)]:=by rw [h1]; rfl
   rwa [e] at g1
  have hb:bld (.cls L) nx l.length=(L.map (clsS5 nx),l.length):=by simp only [bld]; rw [if_pos h1]
  rw [hb] at hq
  rw [List.take_length] at hB
  exact ⟨⟨by decide,by omega⟩,b1,o1,e1,_,g1,hq X H15 a1 c1 hB hG⟩
 .have hge:n8=L.length:=by have:=of_decide_eq_false hge; omega
  subst hge
  have h1:L.length≠1:=by have:=of_decide_eq_false h1; omega
  have hb:bld (.cls L) nx l.length=(L.map (clsS5 nx)++[forkS (waysM l.length L.length)],l.length+L.length):=by simp only [bld]; rw [if_neg h1]; rfl
  rw [hb] at hq
  rw [List.take_length] at hB hlen
  obtain ⟨Y,y1,y2,y3,y4⟩:=hW.know hB.le (fun b q=>(hWo b q).1)
  have hYp:Y n4=none:=by
   rcases none_or Y n4 with q | ⟨e,q⟩
   .exact q
   .rcases y4 n4 (by rw [q]; simp) with z | z
    .exact absurd hB.xp z
    .exact absurd rfl (hWo n4 z).2.1
  have hYa:∀ b,blk a1=some b->Y b=none:=fun b q=>by
   rcases none_or Y b with z | ⟨e,z⟩
   .exact z
   .rcases y4 b (by rw [z]; simp) with u | u
    .exact absurd (hB.out b q).1 u
    .exact absurd q (hWo b u).2.2.1
  have hBY:Bu Y H15 n4 hole (l++L.map (clsS5 nx)) a1 c1:=hB.agree y1 y2 hYp hYa fun k e _ q=>q
  have hwl:L.length=(waysM l.length L.length).length:=(waysM_len _ _).symm
  have hcall:=c26 ok (f:=waysM l.length L.length) (af:=a7) (cf:=n9) (Q:=fun v H'=>∃ x6:Int,v = .int .i64 x6/\Q (.int .i64 x6) H') hBY (.inr ⟨by simp [hne],by rw [waysM_len]; exact y3⟩) (by rw [hlen]; omega) fun H5 a5 hB5 hG5=>⟨_,rfl,?_⟩
  .rw [waysM_len] at hcall
   exact hcall
  .rw [hlen]
   have hG0:Gw Y H Y H15 n4 a a1:=⟨Le.refl _,hG.fr,hG.fresh,fun k q=>.inl q⟩
   have hGt:=hG0.trans hG5 hBY.known hB5.xp (fun q=>(hB5.out n4 q).2 rfl)
   refine hq Y H5 a5 unkU (by rw [<- List.append_assoc]; exact hB5) ⟨y1,hGt.fr,hGt.fresh,fun k q=>?_⟩
   rcases y4 k q with z | z
   .exact .inl z
   .exact .inr (hWo k z).2.2.2
def BlD (t:Ptn):Prop:=∀ (X H:KH) (p:Nat) (hole:OA × Nat) (l:List St) (a:OA) (c nx:Nat) (cs:List Value) (Q:PQ),Bu X H p hole l a c->l≠[]->NdC X t cs->l.length+26*t.items.length<=100000->
 (∀ X' H' a' c',Bu X' H' p hole (l++(bld t nx l.length).1) a' c'->Gw X H X' H' p a a'->Q (.int .i64 ((bld t nx l.length).2:Nat)) H')->Does (env Try.prog) 29 [.pointer (some ⟨p,0,none⟩),.agg cs.toArray,.int .i64 (nx:Nat)] H Q
theorem c52 {t:Ptn} (hT:BlD t) (hfit:t.fit) {X H:KH} {p:Nat} {hole:OA × Nat} {l:List St} {a:OA} {c nx:Nat} {cs:List Value} {Q:PQ} (h:Bu X H p hole l a c) (hne:l≠[]) (hn:NdC X t cs) (hs:l.length+26*t.items.length+1<=100000)
 (hq:∀ X' H' a' c',Bu X' H' p hole (l++forkS [((bld t l.length (l.length+1)).2:Nat),(nx:Nat)] :: (bld t l.length (l.length+1)).1) a' c'->Gw X H X' H' p a a'->Q (.tuple #[.int .i64 ((bld t l.length (l.length+1)).2:Nat),.int .i64 (l.length:Nat)]) H'):Does (env Try.prog) 52 [.pointer (some ⟨p,0,none⟩),.agg cs.toArray,.int .i64 (nx:Nat)] H Q:=by
 have h3:=hn.three
 obtain ⟨aa,n,cc,b,m,d,rfl⟩:=h3
 have hbl:=bld_len t l.length (l.length+1) hfit
 refine fn52 ok (c26 ok (f:=[]) (af:=none) (cf:=0) h (.inr ⟨hne,rfl⟩) (by omega) fun H2 a2 hB2 hG2=>⟨_,rfl,?_⟩)
 have hl1:(l++[forkS []]).length=l.length+1:=by simp
 refine hT X H2 p hole _ a2 unkU l.length _ _ hB2 (by simp) hn (by rw [hl1]; omega) fun X5 H5 a5 c5 hB5 hG5=>⟨_,rfl,rfl,a5,_,c5,hB5.c0,fun n10 h10=>?_⟩
 rw [hl1] at hB5 ⊢
 obtain ⟨hB6,hk6,hG6⟩:=hB5.lit (x:=((bld t l.length (l.length+1)).2:Nat)) (y:=(nx:Nat)) h10
 have hGt:=hG6 (hG2.trans hG5 hB2.known hB5.xp (fun q=>(hB5.out p q).2 rfl))
 have hlen:(l++[forkS []]++(bld t l.length (l.length+1)).1).length=l.length+1+(bld t l.length (l.length+1)).1.length:=by simp; omega
 obtain ⟨cells,r1,r2⟩:=hB6.row
 have e1:l++[forkS []]++(bld t l.length (l.length+1)).1=l++(forkS [] :: (bld t l.length (l.length+1)).1):=by simp
 rw [e1] at r2
 obtain ⟨w1,w2,u1,u2,u3⟩:=r2.split hne
 obtain ⟨af,cf,w3,u4,u5,u6⟩:=u3
 have hw1:=u2.len
 obtain ⟨bb,ha5⟩:∃ bb,a5=some ⟨bb,0,none⟩:=by
  generalize hN:(l++[forkS []]++(bld t l.length (l.length+1)).1).length=N at *
  cases r1 with
  | nil=>omega
  | on b _ e _ _ q1 q2 q3 q4 q5 q6=>exact ⟨b,rfl⟩
 subst ha5
 have hcells:cells=(w1++[.int .u8 0,.int .u8 0,.int .i64 (-1)])++[.slice af 0 cf]++([.int .i64 0]++w3):=by
  rw [u1,u4]
  simp [stC,forkS]
 rw [hcells] at r1
 have e0:Int.toNat ((l.length:Nat):Int)=l.length:=by omega
 have ho:(w1++[Value.int .u8 0,.int .u8 0,.int .i64 (-1)]).length=(0+l.length*5)+3:=by simp [hw1]
 obtain ⟨p1,p2,p3⟩:=r1.put (o:=(0+l.length*5)+3) (vs:=[.slice (some ⟨n10,0,none⟩) 2 2]) ho rfl
 rw [e0]
 have hbo:=hB6.out bb rfl
 refine ⟨⟨by omega,by rw [hlen]; omega⟩,bb,0,rfl,rfl,stOk p2 rfl,p3,?_⟩
 obtain ⟨ep,z1,z2,z3⟩:=hB6.pt
 have hll:(l++forkS [((bld t l.length (l.length+1)).2:Int),(nx:Int)] :: (bld t l.length (l.length+1)).1).length=(l++[forkS []]++(bld t l.length (l.length+1)).1).length:=by simp
 refine hq _ _ (some ⟨bb,0,none⟩) c5 ⟨fun k e q=>put_ne (fun x=>by rw [x,hbo.1] at q; cases q) (hB6.le k e q),hB6.xp,⟨ep,put_ne hbo.2.symm z1,z2,?_⟩,⟨w1++[.int .u8 0,.int .u8 0,.int .i64 (-1)]++[.slice (some ⟨n10,0,none⟩) 2 2]++([.int .i64 0]++w3),?_,?_⟩,hB6.out⟩ ⟨hGt.le,fun k e q1 q2 q3=>?_,hGt.fresh,hGt.nw⟩
 .rw [hll]; exact z3
 .rw [hll]; exact p1
 .have hst:SsR (X5.new n10 (mkEnt [.int .i64 ((bld t l.length (l.length+1)).2:Nat),.int .i64 (nx:Nat)] 0)) (forkS [((bld t l.length (l.length+1)).2:Nat),(nx:Nat)] :: (bld t l.length (l.length+1)).1) (stC (forkS [((bld t l.length (l.length+1)).2:Nat),(nx:Nat)]) (some ⟨n10,0,none⟩) 2++w3):=⟨_,2,w3,rfl,hk6,u6⟩
  have:=u2.app hne hst
  simpa [stC,forkS] using this
 .have hne2:k≠bb:=fun x=>by
   rcases hGt.fresh bb rfl with y | y
   .exact q3 (by rw [x]; exact y)
   .rw [x,y] at q1; cases q1
  exact put_ne hne2 (hGt.fr k e q1 q2 q3)
theorem c29:∀ t:Ptn,t.fit->BlD t
 | .cls L,hf=>by
   intro X H p hole l a c nx cs Q h hne hn hs hq
   obtain ⟨a1,c1,b,d,rfl,h2⟩:=hn
   refine fn29 ok ⟨fun q=>by simp at q,fun _=>⟨fun q=>by simp at q,fun _=>⟨fun q=>by simp at q,fun _=>⟨fun q=>by simp at q,fun _=>⟨fun q=>by simp at q,fun _=>?_⟩⟩⟩⟩⟩
   exact c53 ok h hne (h.le.kold h2 |> fun _=>h2) hf (by omega) fun X' H' a' c' hB hG=>⟨_,rfl,hq X' H' a' c' hB hG⟩
 | .join t u,hf=>by
   intro X H p hole l a c nx cs Q h hne hn hs hq
   obtain ⟨a1,c1,b,d,pc,qc,rfl,h2,h3,h4⟩:=hn
   simp only [Ptn.items,List.length_append,List.length_cons,List.length_nil] at hs
   have hbu:=bld_len u nx l.length hf.2
   obtain ⟨n,o,e,hk⟩:=kid2 h2 h3 h4
   obtain ⟨g1,g2⟩:=hk H h.le
   have h3':=h3
   have h4':=h4
   obtain ⟨a2,n2,c2,b2,m2,d2,rfl⟩:=h3.three
   obtain ⟨a3,n3,c3,b3,m3,d3,rfl⟩:=h4.three
   refine fn29 ok ⟨fun _=>⟨trivial,⟨by decide,by decide⟩,n,o,e,_,_,_,_,_,_,_,g1,⟨by decide,by decide⟩,n,o,e,_,_,_,_,_,_,_,g2,?_⟩,fun q=>by simp at q⟩
   refine c29 u hf.2 X H p hole l a c nx _ _ h hne h4' (by omega) fun X1 H1 a1' c1' hB1 hG1=>⟨_,rfl,?_⟩
   obtain ⟨g3,_⟩:=hk H1 (hG1.le.trans hB1.le)
   refine ⟨⟨rfl,⟨rfl,rfl⟩,rfl,⟨⟨by decide,by decide⟩,n,o,e,rfl⟩,⟨_,_,_,_,_,_,_,g3,rfl⟩,trivial⟩,?_⟩
   have hl1:(l++(bld u nx l.length).1).length=l.length+(bld u nx l.length).1.length:=by simp
   refine c29 t hf.1 X1 H1 p hole _ a1' c1' _ _ _ hB1 (by simp [hne]) (h3'.mono hG1.le) (by rw [hl1]; omega) fun X2 H2 a2' c2' hB2 hG2=>⟨_,rfl,trivial,?_⟩
   rw [hl1] at hB2 ⊢
   exact hq X2 H2 a2' c2' (by rw [List.append_assoc] at hB2; exact hB2) (hG1.trans hG2 hB1.known hB2.xp fun q=>(hB2.out p q).2 rfl)
 | .alt t u,hf=>by
   intro X H p hole l a c nx cs Q h hne hn hs hq
   obtain ⟨a1,c1,b,d,pc,qc,rfl,h2,h3,h4⟩:=hn
   simp only [Ptn.items,List.length_append,List.length_cons,List.length_nil] at hs
   have hbt:=bld_len t nx l.length hf.1
   have hbu:=bld_len u nx (l.length+(bld t nx l.length).1.length) hf.2
   obtain ⟨n,o,e,hk⟩:=kid2 h2 h3 h4
   obtain ⟨g1,g2⟩:=hk H h.le
   have h3':=h3
   have h4':=h4
   obtain ⟨a2,n2,c2,b2,m2,d2,rfl⟩:=h3.three
   obtain ⟨a3,n3,c3,b3,m3,d3,rfl⟩:=h4.three
   refine fn29 ok ⟨fun q=>by simp at q,fun _=>⟨fun _=>⟨trivial,⟨by decide,by decide⟩,n,o,e,_,_,_,_,_,_,_,g1,⟨by decide,by decide⟩,n,o,e,_,_,_,_,_,_,_,g2,?_⟩,fun q=>by simp at q⟩⟩
   refine c29 t hf.1 X H p hole l a c nx _ _ h hne h3' (by omega) fun X1 H1 a1' c1' hB1 hG1=>⟨_,rfl,?_⟩
   obtain ⟨_,g3⟩:=hk H1 (hG1.le.trans hB1.le)
   refine ⟨⟨rfl,rfl,⟨rfl,rfl⟩,rfl,⟨⟨by decide,by decide⟩,n,o,e,rfl⟩,⟨_,_,_,_,_,_,_,g3,rfl⟩,rfl,trivial⟩,?_⟩
   have hl1:(l++(bld t nx l.length).1).length=l.length+(bld t nx l.length).1.length:=by simp
   refine c29 u hf.2 X1 H1 p hole _ a1' c1' _ _ _ hB1 (by simp [hne]) (h4'.mono hG1.le) (by rw [hl1]; omega) fun X2 H2 a2' c2' hB2 hG2=>⟨_,rfl,⟨rfl,trivial⟩,fun n67 h67=>?_⟩
   rw [hl1] at hB2 ⊢
   obtain ⟨hB3,hk3,hG3⟩:=hB2.lit (x:=((bld t nx l.length).2:Nat)) (y:=((bld u nx (l.length+(bld t nx l.length).1.length)).2:Nat)) h67
   have hGt:=hG3 (hG1.trans hG2 hB1.known hB2.xp fun q=>(hB2.out p q).2 rfl)
   have hl2:(l++(bld t nx l.length).1++(bld u nx (l.length+(bld t nx l.length).1.length)).1).length=l.length+(bld t nx l.length).1.length+(bld u nx (l.length+(bld t nx l.length).1.length)).1.length:=by simp; omega
   refine c26 ok (f:=[((bld t nx l.length).2:Nat),((bld u nx (l.length+(bld t nx l.length).1.length)).2:Nat)]) hB3 (.inr ⟨by simp [hne],hk3⟩) (by rw [hl2]; omega) fun H4 a4 hB4 hG4=>⟨_,rfl,trivial,?_⟩
   rw [hl2]
   exact hq _ H4 a4 unkU (by rw [show l++(bld (.alt t u) nx l.length).1=l++(bld t nx l.length).1++(bld u nx (l.length+(bld t nx l.length).1.length)).1++[forkS [((bld t nx l.length).2:Nat),((bld u nx (l.length+(bld t nx l.length).1.length)).2:Nat)]] by simp [bld]]; exact hB4) (hGt.trans hG4 hB3.known hB4.xp fun q=>(hB4.out p q).2 rfl)
 | .star t,hf=>by
   intro X H p hole l a c nx cs Q h hne hn hs hq
   obtain ⟨a1,c1,b,d,pc,rfl,h2,h3⟩:=hn
   simp only [Ptn.items,List.length_append,List.length_cons,List.length_nil] at hs
   obtain ⟨n,o,e,hk⟩:=kid1 h2 h3
   have g1:=hk H h.le
   have h3':=h3
   obtain ⟨a2,n2,c2,b2,m2,d2,rfl⟩:=h3.three
   refine fn29 ok ⟨fun q=>by simp at q,fun _=>⟨fun q=>by simp at q,fun _=>⟨fun _=>⟨⟨by decide,by decide⟩,n,o,e,_,_,_,_,_,_,_,g1,?_⟩,fun q=>by simp at q⟩⟩⟩
   exact c52 ok (c29 t hf) hf h hne h3' (by omega) fun X' H' a' c' hB hG=>⟨_,_,rfl,hq X' H' a' c' hB hG⟩
 | .plus t,hf=>by
   intro X H p hole l a c nx cs Q h hne hn hs hq
   obtain ⟨a1,c1,b,d,pc,rfl,h2,h3⟩:=hn
   simp only [Ptn.items,List.length_append,List.length_cons,List.length_nil] at hs
   obtain ⟨n,o,e,hk⟩:=kid1 h2 h3
   have g1:=hk H h.le
   have h3':=h3
   obtain ⟨a2,n2,c2,b2,m2,d2,rfl⟩:=h3.three
   refine fn29 ok ⟨fun q=>by simp at q,fun _=>⟨fun q=>by simp at q,fun _=>⟨fun q=>by simp at q,fun _=>⟨fun _=>⟨⟨by decide,by decide⟩,n,o,e,_,_,_,_,_,_,_,g1,?_⟩,fun q=>by simp at q⟩⟩⟩⟩
   exact c52 ok (c29 t hf) hf h hne h3' (by omega) fun X' H' a' c' hB hG=>⟨_,_,rfl,hq X' H' a' c' hB hG⟩
 | .may t,hf=>by
   intro X H p hole l a c nx cs Q h hne hn hs hq
   obtain ⟨a1,c1,b,d,pc,rfl,h2,h3⟩:=hn
   simp only [Ptn.items,List.length_append,List.length_cons,List.length_nil] at hs
   have hbt:=bld_len t nx l.length hf
   obtain ⟨n,o,e,hk⟩:=kid1 h2 h3
   have g1:=hk H h.le
   have h3':=h3
   obtain ⟨a2,n2,c2,b2,m2,d2,rfl⟩:=h3.three
   refine fn29 ok ⟨fun q=>by simp at q,fun _=>⟨fun q=>by simp at q,fun _=>⟨fun q=>by simp at q,fun _=>⟨fun q=>by simp at q,fun _=>⟨fun _=>⟨⟨by decide,by decide⟩,n,o,e,_,_,_,_,_,_,_,g1,?_⟩,fun q=>by simp at q⟩⟩⟩⟩⟩
   refine c29 t hf X H p hole l a c nx _ _ h hne h3' (by omega) fun X1 H1 a1' c1' hB1 hG1=>⟨_,rfl,fun n109 h109=>?_⟩
   obtain ⟨hB3,hk3,hG3⟩:=hB1.lit (x:=((bld t nx l.length).2:Nat)) (y:=(nx:Nat)) h109
   have hl1:(l++(bld t nx l.length).1).length=l.length+(bld t nx l.length).1.length:=by simp
   refine c26 ok (f:=[((bld t nx l.length).2:Nat),(nx:Nat)]) hB3 (.inr ⟨by simp [hne],hk3⟩) (by rw [hl1]; omega) fun H4 a4 hB4 hG4=>⟨_,rfl,?_⟩
   rw [hl1]
   exact hq _ H4 a4 unkU (by rw [show l++(bld (.may t) nx l.length).1=l++(bld t nx l.length).1++[forkS [((bld t nx l.length).2:Nat),(nx:Nat)]] by simp [bld]]; exact hB4) ((hG3 hG1).trans hG4 hB3.known hB4.xp fun q=>(hB4.out p q).2 rfl)
theorem c27 {l:List It} {t:Ptn} {a:OA} {c:Nat} {H:KH} {Q:PQ} (hi:ItR H l a) (hl:l.length<=47) (hrg:∀ i∈l,i.2.length<=24) (hok:∀ i∈l,okIt i) (ht:stkM l []=some [t]) (htl:t.items=l)
 (hn:said t.text l=false->∀ H',Le H H'->Q (.tuple #[.agg #[.int .i64 0,.slice none 0 0,.slice none 0 0],.bool false]) H')
 (hq:said t.text l=true->∀ Y H' a1 n1 c1 a2 n2 c2,Le H Y->Le Y H'->NdC Y t [.int .i64 t.op,.slice a1 n1 c1,.slice a2 n2 c2]->Q (.tuple #[.agg #[.int .i64 t.op,.slice a1 n1 c1,.slice a2 n2 c2],.bool true]) H'):Does (env Try.prog) 27 [.slice a l.length c] H Q:=by
 have hfit:t.fit:=fit_of t (by rw [htl]; exact hrg)
 refine fn27 ok (c49 ok hi hl hrg hok ht fun Y H2 a1 n1 c1 a2 n2 c2 y1 y2 y3=>⟨_,_,_,_,_,_,_,_,rfl,fun q=>(by cases q),fun _=>?_⟩)
 refine c51 ok t hfit (by rw [htl]; omega) H2 _ _ (y3.mono y2) fun H12 l12=>⟨_,rfl,c50 ok (hi.mono ((y1.trans y2).trans l12)) fun H15 l15=>⟨_,rfl,fun q=>?_,fun q=>?_⟩⟩
 .have q:said t.text l=false:=by simpa using q
  exact hn q H15 ((y1.trans y2).trans (l12.trans l15))
 .have q:said t.text l=true:=by simpa using q
  exact hq q Y H15 a1 n1 c1 a2 n2 c2 y1 (y2.trans (l12.trans l15)) y3
end
end Va
end Go.Proofs.Ytlgpleiobieniaa
namespace Go.Ew
open Go.Ev Go.Deep
theorem Does.only {E:Env} {g:Nat} {args:List Value} {X H:KH} {Q:PQ} (hl:Le X H) (h:Does E g args X fun v X'=>∀ H',Le X' H'->(∀ k e,H k=some e->X k=none->H' k=some e/\X' k=none)->Q v H'):Does E g args H Q:=by
 refine ⟨h.lt,fun hp wf know=>?_⟩
 obtain ⟨v,h',X',h1,h2,h3,h4,h5,h6,h7⟩:=h.run hp wf fun k e q=>know k e (hl k e q)
 have hin:∀ k e,H k=some e->k<hp.nxt:=fun k e q=>by
  rcases Nat.lt_or_ge k hp.nxt with z | z
  .exact z
  .have:=know k e q; rw [wf k z] at this; cases this
 have hX':∀ k e,H k=some e->X k=none->X' k=none:=fun k e q1 q2=>by
  cases hx:X' k with
  | none=>rfl
  | some e' =>
    rcases h7 k (by rw [hx]; simp) with z | z
    .exact absurd q2 z
    .have:=hin k e q1; omega
 refine ⟨v,h',fun k=>match H k,X k with | some e,none=>some e | _,_=>X' k,h1,h2 _ (fun k e q=>?_) (fun k e q1 q2=>⟨by simp only [q1,q2],hX' k e q1 q2⟩),h3,fun k e q=>?_,h5,fun k q1 q2=>h6 k q1 (hl.none q2),fun k q=>?_⟩
 .show (match H k,X k with | some e,none=>some e | _,_=>X' k:Option Ent)=some e
  split
  .rename_i e0 hk hx
   rw [hX' k e0 hk hx] at q; cases q
  .exact q
 .have q:(match H k,X k with | some e,none=>some e | _,_=>X' k:Option Ent)=some e:=q
  split at q
  .rename_i e0 hk hx
   cases q
   rw [h6 k (hin k _ hk) hx]
   exact know k _ hk
  .exact h4 k e q
 .have q:(match H k,X k with | some e,none=>some e | _,_=>X' k:Option Ent)≠none:=q
  split at q
  .rename_i e0 hk hx
   left; rw [hk]; simp
  .rcases h7 k q with z | z
   .left
    cases hx:X k with
    | none=>exact absurd hx z
    | some e=>rw [hl k e hx]; simp
   .exact .inr z
def PtC (X:KH):List (List It)->List Value->Prop
 | [],cs=>cs=[]
 | l :: r,cs=>∃ a c ds,cs = .slice a l.length c :: ds/\(ItR X l a/\SlOk X 2 a l.length c)/\PtC X r ds
def PtR (H:KH) (pats:List (List It)) (a:OA):Prop:=∃ cs,kold H 1 a pats.length=some cs/\PtC H pats cs
theorem PtC.mono {X Y:KH} (hl:Le X Y):∀ {l:List (List It)} {cs:List Value},PtC X l cs->PtC Y l cs
 | [],cs,h=>h
 | s :: r,cs,⟨a,c,ds,h1,h2,h3⟩=>⟨a,c,ds,h1,⟨h2.1.mono hl,h2.2.mono hl⟩,h3.mono hl⟩
theorem PtC.get {X:KH}:∀ {l:List (List It)} {cs:List Value} {k:Nat} {i:List It},PtC X l cs->l[k]? = some i->∃ a c,cs[k]? = some (.slice a i.length c)/\ItR X i a
 | [],cs,k,i,h,hk=>by simp at hk
 | s :: r,cs,0,i,⟨a,c,ds,h1,h2,h3⟩,hk=>by
   have hk:s=i:=by simpa using hk
   subst hk; subst h1
   exact ⟨a,c,rfl,h2.1⟩
 | s :: r,cs,k+1,i,⟨a,c,ds,h1,h2,h3⟩,hk=>by
   subst h1
   have hk:r[k]? = some i:=by simpa using hk
   obtain ⟨a',c',q1,q2⟩:=PtC.get h3 hk
   exact ⟨a',c',by simpa using q1,q2⟩
def treeD (l:List It):Ptn:=match stkM l [] with
 | some [t]=>t
 | _=>.cls []
structure GoodP (l:List It):Prop where
 st:stkM l []=some [treeD l]
 it:(treeD l).items=l
 ln:l.length<=47
 rg:∀ i∈l,i.2.length<=24
 ok:∀ i∈l,okIt i
def endS (k:Nat):St:=⟨0,0,-1,[],((k+1:Nat):Int)⟩
def ofM:List (List It)->Nat->List Int->List St->List Int × List St
 | [],_,f,tl=>(f,tl)
 | l :: ts,k,f,tl=>ofM ts (k+1) (f++[((bld (treeD l) (tl.length+1) (tl.length+2)).2:Int)]) (tl++endS k :: (bld (treeD l) (tl.length+1) (tl.length+2)).1)
def nfaM (pats:List (List It)):List St:=forkS (ofM pats 0 [] []).1 :: (ofM pats 0 [] []).2
def SsN (H:KH) (l:List St) (a:OA):Prop:=∃ cs,kold H 5 a l.length=some cs/\SsR H l cs
end Go.Ew
namespace Go.Proofs.Ytlgpleiobieniaa
open Go.Ev Go.Ew
namespace Va
section
variable (ok : EnvOk (env Try.prog))
include ok
theorem c15 {pats:List (List It)} {a:OA} {c:Nat} {H:KH} {Q:PQ} (hp:PtR H pats a) (hg:∀ l∈pats,GoodP l) (hs:pats.length<=50)
 (hn:(∃ l∈pats,said (treeD l).text l=false)->∀ H',Le H H'->Q (.slice none 0 0) H')
 (hq:(∀ l∈pats,said (treeD l).text l=true)->∀ a' c' H',Le H H'->SsN H' (nfaM pats) a'->Q (.slice a' (nfaM pats).length c') H'):Does (env Try.prog) 15 [.slice a pats.length c] H Q:=by
 refine fn15 ok fun n1 h1=>?_
 have l1:Le H (H.new n1 (mkEnt [.slice none 0 0] 0)):=Le.new h1
 have hB0:Bu H (H.new n1 (mkEnt [.slice none 0 0] 0)) n1 (none,0) [] none 0:=⟨l1,h1,⟨_,if_pos rfl,rfl,rd_some rfl fun j v hv=>by rw [Nat.zero_add]; simp only [mkEnt,tget_wr_nil]; exact hv⟩,⟨[],.nil,rfl⟩,fun b q=>by cases q⟩
 refine c26 ok (f:=[]) (af:=none) (cf:=0) hB0 (.inl ⟨rfl,rfl⟩) (by simp) fun H3 a3 hB3 hG3=>⟨_,rfl,?_⟩
 unfold vc15_L2
 refine ⟨fun n3 n4 n5 x6 a7 n8 n9 x10 x11 H12=>n4=n1/\n5=0/\x6=0/\a7=a/\n8=pats.length/\x10=(pats.length:Nat)/\∃ (k:Nat) (f:List Int) (tl:List St) (a1:OA) (c1:Nat) (af:OA) (cf:Nat) (X:KH),x11=k/\k<=pats.length/\n3=pats.length-k/\Le H X/\Bu X H12 n1 (af,cf) (forkS f :: tl) a1 c1/\Gr H12 1 af f.length cf (inC f) []/\(∀ b,blk af=some b->X b=none/\b≠n1/\blk a1≠some b)/\ofM pats 0 [] []=ofM (pats.drop k) k f tl/\(∀ l∈pats.take k,said (treeD l).text l=true)/\tl.length<=k*1300/\f.length=k,
  ⟨pats.length,rfl,rfl,rfl,rfl,rfl,rfl,rfl,0,[],[],a3,unkU,none,0,H,rfl,by omega,rfl,Le.refl _,hB3,.nil,(fun b q=>by cases q),rfl,by simp,by simp,rfl⟩,?_⟩
 rintro n3 n4 n5 x6 a7 n8 n9 x10 x11 H12 ⟨rfl,rfl,rfl,rfl,rfl,rfl,k,f,tl,a1,c1,af,cf,X,rfl,hk,rfl,hHX,hB,hF,hFo,hof,hsd,htl,hfk⟩
 refine ⟨fun hlt=>?_,fun hge=>?_⟩
 .have hlt:k<pats.length:=by have:=of_decide_eq_true hlt; omega
  have e0:Int.toNat ((k:Nat):Int)=k:=by omega
  obtain ⟨pc,pk,pcs⟩:=hp
  obtain ⟨ai,ci,g1,g2⟩:=pcs.get (k:=k) (i:=pats[k]) (by simp [hlt])
  obtain ⟨b1,o1,e1,r1⟩:=rowAddr ((hHX.trans hB.le).kold pk) (by omega)
  have g3:=r1 (k*1) 1 (by omega)
  have e2:(pc.drop (k*1)).take 1=[.slice ai pats[k].length ci]:=dropTake rfl fun j hj=>by
   match j,hj with
   | 0,_=>simpa using g1
  rw [e2] at g3
  have hgp:=hg _ (List.getElem_mem hlt)
  have hmem:pats[k]∈pats:=List.getElem_mem hlt
  have htk:pats.take (k+1)=pats.take k++[pats[k]]:=List.take_succ_eq_append_getElem hlt
  rw [List.drop_eq_getElem_cons hlt,ofM] at hof
  generalize hpl:pats[k]=pl at *
  rw [e0]
  refine ⟨⟨by omega,by omega⟩,b1,o1,e1,ai,_,ci,g3,?_⟩
  refine Does.only hB.le (c27 ok (g2.mono hHX) hgp.ln hgp.rg hgp.ok hgp.st hgp.it (fun hno X' lx H7 l7 hrest=>⟨_,_,_,_,_,_,_,_,rfl,fun _=>hn ⟨pl,hmem,hno⟩ H7 ((hHX.trans lx).trans l7),fun q=>by cases q⟩) fun hyes Y X' a9 n10 c15' a12 n13 c14 y1 y2 y3 H7 l7 hrest=>⟨_,_,_,_,_,_,_,_,rfl,fun q=>(by cases q),fun _=>?_⟩)
  -- what else there was is as it was
  have hYX':∀ q,(∃ e,H12 q=some e)->X q=none->Y q=none:=fun q ⟨e,h1⟩ h2=>y2.none (hrest q e h1 h2).2
  have hpin:∃ e,H12 n4=some e:=by obtain ⟨e,z,_⟩:=hB.pt; exact ⟨e,z⟩
  have hain:∀ b,blk a1=some b->∃ e,H12 b=some e:=fun b q=>by
   obtain ⟨cs,z,_⟩:=hB.row
   exact z.at' q
  have hfin:∀ b,blk af=some b->∃ e,H12 b=some e:=fun b q=>hF.at' q
  have hB7:Bu Y H7 n4 (af,cf) (forkS f :: tl) a1 c1:=hB.agree y1 (y2.trans l7) (hYX' n4 hpin hB.xp) (fun b q=>hYX' b (hain b q) (hB.out b q).1) fun q e h1 h2=>by
   rcases h1 with h1 | h1
   .exact (hrest q e h2 (by rw [h1]; exact hB.xp)).1
   .exact (hrest q e h2 (hB.out q h1).1).1
  have hF7:Gr H7 1 af f.length cf (inC f) []:=hF.agree fun q e h1 h2=>(hrest q e h2 (hFo q h1).1).1
  have hFo7:∀ b,blk af=some b->Y b=none/\b≠n4/\blk a1≠some b:=fun b q=>⟨hYX' b (hfin b q) (hFo b q).1,(hFo b q).2⟩
  have hw:IntKind.wrap .i64 (((k:Nat):Int)+1)=((k+1:Nat):Int):=by rw [wrap64 (by omega) (by omega)]; omega
  rw [hw]
  have hfit:(treeD pl).fit:=fit_of _ (by rw [hgp.it]; exact hgp.rg)
  have hln:(treeD pl).items.length<=47:=by rw [hgp.it]; exact hgp.ln
  refine c28 ok (s:=endS k) (af:=none) (cf:=0) hB7 (.inr ⟨by simp,rfl⟩) (by simp; omega) fun H2 a2 hB2 hG2=>⟨_,rfl,?_⟩
  have hl2:(forkS f :: tl++[endS k]).length=tl.length+2:=by simp
  have hl2':(forkS f :: tl).length=tl.length+1:=by simp
  rw [hl2']
  refine c29 ok (treeD pl) hfit Y H2 n4 _ _ a2 unkU (tl.length+1) _ _ hB2 (by simp) y3 (by rw [hl2]; omega) fun X5 H5 a5 c5 hB5 hG5=>⟨_,rfl,?_⟩
  rw [hl2] at hB5 ⊢
  have hGt:=hG2.trans hG5 hB2.known hB5.xp fun q=>(hB5.out n4 q).2 rfl
  have hbl:=bld_len (treeD pl) (tl.length+1) (tl.length+2) hfit
  generalize hr:bld (treeD pl) (tl.length+1) (tl.length+2)=r at *
  have hF5:Gr H5 1 af f.length cf (inC f) []:=hF7.agree fun q e h1 h2=>hGt.fr q e h2 (hFo7 q h1).2.1 (hFo7 q h1).2.2
  have hFo5:∀ b,blk af=some b->X5 b=none/\b≠n4/\blk a5≠some b:=fun b q=>by
   obtain ⟨e,z⟩:=hF7.at' q
   refine ⟨?_,(hFo7 b q).2.1,fun u=>?_⟩
   .rcases none_or X5 b with u | ⟨e',u⟩
    .exact u
    .rcases hGt.nw b (by rw [u]; simp) with v | v | v
     .exact absurd (hFo7 b q).1 v
     .rw [z] at v; cases v
     .exact absurd v (hFo7 b q).2.2
   .rcases hGt.fresh b u with v | v
    .exact (hFo7 b q).2.2 v
    .rw [z] at v; cases v
  obtain ⟨cells,s1,s2⟩:=hB5.row
  obtain ⟨ds,t1,t2⟩:=s2
  have hls:(forkS f :: tl++[endS k]++r.1).length=tl.length+2+r.1.length:=by simp; omega
  obtain ⟨bb,ha5⟩:∃ bb,a5=some ⟨bb,0,none⟩:=by
   generalize hN:(forkS f :: tl++[endS k]++r.1).length=N at *
   cases s1 with
   | nil=>omega
   | on b _ e _ _ q1 q2 q3 q4 q5 q6=>exact ⟨b,rfl⟩
  subst ha5
  have hcells:cells=[.int .u8 0,.int .u8 0,.int .i64 (-1)]++[.slice af f.length cf]++([.int .i64 0]++ds):=by
   rw [t1]; simp [stC,forkS]
  rw [hcells] at s1
  obtain ⟨_,q2,_⟩:=s1.put (o:=3) (vs:=[.slice none 0 0]) rfl rfl
  have q2:ld H5 ⟨bb,0+Int.toNat 0*5+3,none⟩ [.slice af f.length cf]:=q2
  refine ⟨trivial,rfl,_,_,c5,hB5.c0,rfl,_,_,c5,hB5.c0,⟨by decide,by rw [hls]; omega⟩,bb,0,rfl,rfl,af,_,cf,q2,fun n18 h18 n19 h19=>?_⟩
  have l18:=Le.new (e:=mkEnt [.int .i64 ((r.2:Nat):Int)] 0) h18
  obtain ⟨a',H',ex',f1,f2,f3,f4,f5⟩:=(hF5.agree fun q e _ z=>l18 q e z).append (ti:=IT1) (new:=[.int .i64 ((r.2:Nat):Int)]) h19 rfl (by omega) (by decide) (by decide)
  have hx:=f3 rfl
  subst hx
  have h19':H5 n19=none:=l18.none h19
  have kept:∀ q e,H5 q=some e->blk af≠some q->H' q=some e:=fun q e z1 z2=>f4 q e (l18 q e z1) z2
  have hB':Bu X5 H' n4 (af,cf) (forkS f :: tl++[endS k]++r.1) (some ⟨bb,0,none⟩) c5:=hB5.agree (Le.refl _) (fun q e z=>kept q e (hB5.le q e z) fun u=>by rw [(hFo5 q u).1] at z; cases z) hB5.xp (fun b q=>(hB5.out b q).1) fun q e z1 z2=>kept q e z2 fun u=>by
   rcases z1 with z1 | z1
   .exact (hFo5 q u).2.1 z1
   .exact (hFo5 q u).2.2 z1
  have s1':=s1.agree (H':=H') fun q e z1 z2=>kept q e z2 fun u=>(hFo5 q u).2.2 z1
  obtain ⟨p1,p2,p3⟩:=s1'.put (o:=3) (vs:=[.slice a' (f.length+1) unkU]) rfl rfl
  have p2:ld H' ⟨bb,0+Int.toNat 0*5+3,none⟩ [.slice af f.length cf]:=p2
  have hbo:=hB5.out bb rfl
  have ha'o:∀ b,blk a'=some b->X5 b=none/\b≠n4/\b≠bb:=fun b q=>by
   rcases f5 b q with u | u
   .exact ⟨(hFo5 b u).1,(hFo5 b u).2.1,fun v=>(hFo5 b u).2.2 (by rw [v]; rfl)⟩
   .rw [u]
    refine ⟨hB5.le.none h19',fun v=>hB5.known (by rw [<- v]; exact h19'),fun v=>?_⟩
    obtain ⟨e,w⟩:=s1.at' (b:=bb) rfl
    rw [<- v,h19'] at w; cases w
  refine ⟨1,_,knew_of (lit_kold (if_pos rfl) rfl),a',_,_,H',f1,⟨⟨rfl,rfl⟩,⟨_,_,c5,hB'.c0,rfl⟩,rfl,trivial⟩,⟨by decide,by rw [hls]; omega⟩,bb,0,rfl,rfl,stOk p2 rfl,p3,trivial,pats.length-(k+1),by omega,rfl,rfl,rfl,rfl,rfl,rfl,rfl,k+1,f++[((r.2:Nat):Int)],tl++endS k :: r.1,some ⟨bb,0,none⟩,c5,a',unkU,X5,rfl,by omega,rfl,(hHX.trans y1).trans hGt.le,?_,?_,fun b q=>⟨(ha'o b q).1,(ha'o b q).2.1,fun v=>(ha'o b q).2.2 (by cases v; rfl)⟩,?_,?_,?_,by simp [hfk]⟩
  .obtain ⟨ep,z1,z2,z3⟩:=hB'.pt
   have hll:(forkS (f++[((r.2:Nat):Int)]) :: (tl++endS k :: r.1)).length=(forkS f :: tl++[endS k]++r.1).length:=by simp
   refine ⟨fun q e z=>put_ne (fun x=>by rw [x,hbo.1] at z; cases z) (hB'.le q e z),hB'.xp,⟨ep,put_ne hbo.2.symm z1,z2,by rw [hll]; exact z3⟩,⟨_,by rw [hll]; exact p1,ds,by simp [stC,forkS],?_⟩,hB'.out⟩
   have:tl++endS k :: r.1=tl++[endS k]++r.1:=by simp
   rw [this]; exact t2
  .have e3:inC (f++[((r.2:Nat):Int)])=inC f++[.int .i64 ((r.2:Nat):Int)]:=by simp [inC]
   have e4:(f++[((r.2:Nat):Int)]).length=f.length+1:=by simp
   rw [e3,e4]
   exact f2.agree fun q e z1 z2=>put_ne (ha'o q z1).2.2 z2
  .rw [hof]
  .rw [htk]
   intro l hl
   rcases List.mem_append.1 hl with hl | hl
   .exact hsd l hl
   .have:l=pl:=by simpa using hl
    rw [this]; exact hyes
  .simp only [List.length_append,List.length_cons]; omega
 .have hge:k=pats.length:=by have:=of_decide_eq_false hge; omega
  subst hge
  rw [List.take_length] at hsd
  rw [List.drop_length] at hof
  have hof:ofM pats 0 [] []=(f,tl):=hof
  have hm:nfaM pats=forkS f :: tl:=by unfold nfaM; rw [hof]
  rw [hm] at hq
  obtain ⟨cs,s1,s2⟩:=hB.row
  obtain ⟨ds,t1,t2⟩:=s2
  refine ⟨rfl,a1,_,c1,hB.c0,hq hsd a1 c1 H12 (hHX.trans hB.le) ⟨cs,s1.row,af,cf,ds,t1,hF.row,t2.mono hB.le⟩⟩
end
end Va
end Go.Proofs.Ytlgpleiobieniaa
namespace Go.Ew
open Go.Ev Go.Deep
def vis (c:Int):Prop:=32<=c/\c<=126
theorem b1_bytes {c:Int} (h:vis c):bytesI (b1B c)=[c]:=by
 unfold bytesI b1B
 have h1:(UInt8.ofNat c.toNat).toNat=c.toNat:=by
  rw [UInt8.toNat_ofNat']
  have:=h.1; have:=h.2
  omega
 simp only [List.map_cons,List.map_nil]
 have:=h.1
 rw [h1]
 congr 1
 omega
theorem byte_said:∀ n:Nat,n<127->32<=n->said (ByteArray.mk #[91]++b1B (n:Int)++ByteArray.mk #[93]) [(1,[((n:Int),(n:Int))])] = !decide ((n:Int)∈clsB):=by decide +kernel
theorem byteT_eq {c:Int} (h:vis c):byteT c=if c∈clsB then ByteArray.mk #[92]++b1B c else b1B c:=by
 obtain ⟨n,rfl⟩:∃ n:Nat,c=n:=⟨c.toNat,by have:=h.1; omega⟩
 have:=byte_said n (by have:=h.2; omega) (by have:=h.1; omega)
 unfold byteT
 rw [this]
 by_cases hc:((n:Nat):Int)∈clsB
 .rw [if_pos hc,if_neg (by simp [hc])]
 .rw [if_neg hc,if_pos (by simp [hc])]
theorem let_plain {c:Int} {r:List Int} (h:c≠92):letL (c :: r) false=(c,false) :: letL r false:=by
 rw [letL,if_neg (fun q=>h q.1)]
theorem let_esc {c:Int} {r:List Int}:letL (92 :: c :: r) false=(c,true) :: letL r false:=by
 rw [letL,if_pos ⟨rfl,rfl,by simp⟩,letL,if_neg (fun q=>by cases q.2.1)]
theorem bytesI_app (a b:ByteArray):bytesI (a++b)=bytesI a++bytesI b:=bytes_app a b
theorem byteT_run {c:Int} (h:vis c):∃ e,standsB c e clsB=true/\∀ r,letL (bytesI (byteT c)++r) false=(c,e) :: letL r false:=by
 rw [byteT_eq h]
 have h1:=h.1
 have h2:=h.2
 split
 .rename_i hc
  refine ⟨true,?_,fun r=>?_⟩
  .unfold standsB; simp [h1,h2,hc]
  .rw [bytesI_app,b1_bytes h]
   exact let_esc
 .rename_i hc
  refine ⟨false,?_,fun r=>?_⟩
  .unfold standsB; simp [h1,h2,hc]
  .rw [b1_bytes h]
   exact let_plain (fun q=>hc (by rw [q]; decide))
theorem foldT_cons {σ τ:RdS} {c:Int} {e:Bool} {l:List (Int × Bool)} (h:takeR σ c e=some τ):foldT σ ((c,e) :: l)=foldT τ l:=by
 rw [foldT,h]
theorem in_cls {σ:RdS} {l:List Rg} {pl c:Int} {e:Bool} (hs:standsB c e clsB=true) {x:List Rg × Int} (ha:addC l pl c=some x) (hσ:σ.cls=some (l,pl)):takeR σ c e=some { σ with cls:=some x }:=by
 unfold takeR
 rw [hσ]
 show inClassR σ l pl c e=_
 unfold inClassR
 rw [if_pos hs,ha]
theorem range_run {r:Rg} (h:okRg r) {σ:RdS} {l:List Rg} {pl:Int} (hp:pl=0\/pl=1) (hσ:σ.cls=some (l,pl)) (q:List Int):∃ pl',(pl'=0\/pl'=1)/\foldT σ (letL (bytesI (rangeT r)++q) false)=foldT { σ with cls:=some (l++[r],pl') } (letL q false):=by
 obtain ⟨lo,hi⟩:=r
 have h1:lo<=hi:=h.1
 have h2:32<=lo:=h.2.1
 have h3:hi<=126:=h.2.2
 have hn2:pl≠2:=by rcases hp with q | q<;>omega
 obtain ⟨e,e1,e2⟩:=byteT_run (c:=lo) ⟨h2,by omega⟩
 have a1:addC l pl lo=some (l++[(lo,lo)],1):=if_pos hn2
 unfold rangeT
 split
 .rename_i heq
  have heq:lo=hi:=heq
  subst heq
  refine ⟨1,.inr rfl,?_⟩
  rw [e2,foldT_cons (in_cls e1 a1 hσ)]
 .rename_i hne
  obtain ⟨f,f1,f2⟩:=byteT_run (c:=hi) ⟨by omega,h3⟩
  refine ⟨0,.inl rfl,?_⟩
  rw [bytesI_app,bytesI_app,List.append_assoc,List.append_assoc,e2,foldT_cons (in_cls e1 a1 hσ)]
  have b45:bytesI (ByteArray.mk #[45])=[45]:=rfl
  rw [b45]
  show foldT _ (letL (45 :: (bytesI (byteT hi)++q)) false)=_
  rw [let_plain (by decide)]
  have t45:takeR { σ with cls:=some (l++[(lo,lo)],1) } 45 false=some { σ with cls:=some (l++[(lo,lo)],2) }:=rfl
  rw [foldT_cons t45,f2]
  have a2:addC (l++[(lo,lo)]) 2 hi=some (l++[(lo,hi)],0):=by
   unfold addC
   rw [if_neg (by decide)]
   simp
   omega
  rw [foldT_cons (in_cls f1 a2 rfl)]
theorem ranges_run:∀ (L:List Rg) (s:ByteArray),(∀ r∈L,okRg r)->bytesI (rangesT L s)=bytesI s++(L.flatMap fun r=>bytesI (rangeT r))
 | [],s,_=>by simp [rangesT]
 | r :: L,s,h=>by
   rw [rangesT,ranges_run L _ (fun x hx=>h x (by simp [hx])),bytesI_app]
   simp
theorem cls_run:∀ (L:List Rg) (σ:RdS) (l:List Rg) (pl:Int) (q:List Int),(∀ r∈L,okRg r)->(pl=0\/pl=1)->σ.cls=some (l,pl)->∃ pl',(pl'=0\/pl'=1)/\foldT σ (letL ((L.flatMap fun r=>bytesI (rangeT r))++q) false)=foldT { σ with cls:=some (l++L,pl') } (letL q false)
 | [],σ,l,pl,q,_,hp,hσ=>⟨pl,hp,by
   have:{ σ with cls:=some (l++[],pl) }=σ:=by rw [List.append_nil,<- hσ]
   rw [this]; rfl⟩
 | r :: L,σ,l,pl,q,h,hp,hσ=>by
   obtain ⟨p1,q1,q2⟩:=range_run (h r (by simp)) hp hσ ((L.flatMap fun r=>bytesI (rangeT r))++q)
   obtain ⟨p2,r1,r2⟩:=cls_run L { σ with cls:=some (l++[r],p1) } (l++[r]) p1 q (fun x hx=>h x (by simp [hx])) q1 rfl
   refine ⟨p2,r1,?_⟩
   rw [List.flatMap_cons,List.append_assoc,q2,r2]
   simp
def Run0 (u:List Int) (I:List It):Prop:=∀ P O pt x q,(x=0\/x=1\/x=2)->2*O.length+u.length<=24->foldT ⟨P,O,pt,x,none⟩ (letL (u++q) false)=foldT ⟨P++Jn x++I,O,pt,Dn x,none⟩ (letL q false)
def Run1 (u:List Int) (I:List It):Prop:=∃ I' x',(x'=1\/x'=2)/\I=I'++Jn x'/\∀ P O pt q,2*O.length+u.length<=24->foldT ⟨P,O,pt,0,none⟩ (letL (u++q) false)=foldT ⟨P++I',O,pt,x',none⟩ (letL q false)
def Run2 (u:List Int) (I:List It):Prop:=∃ I' pt' x',(x'=1\/x'=2)/\I=fins I' pt' x'/\∀ P O q,2*O.length+u.length<=24->foldT ⟨P,O,false,0,none⟩ (letL (u++q) false)=foldT ⟨P++I',O,pt',x',none⟩ (letL q false)
theorem Run0.to1 {u:List Int} {I:List It} (h:Run0 u I):Run1 u I:=⟨I,1,.inl rfl,by simp [Jn],fun P O pt q hl=>by
 rw [h P O pt 0 q (.inl rfl) hl]; simp [Jn,Dn]⟩
theorem Run1.to2 {u:List Int} {I:List It} (h:Run1 u I):Run2 u I:=by
 obtain ⟨I',x',h1,h2,h3⟩:=h
 refine ⟨I',false,x',h1,?_,fun P O q hl=>h3 P O false q hl⟩
 rw [h2]; unfold fins Jn
 rcases h1 with z | z<;>subst z<;>simp
theorem Run2.brk {u:List Int} {I:List It} (h:Run2 u I):Run0 ([40]++u++[41]) I:=by
 obtain ⟨I',pt',x',h1,h2,h3⟩:=h
 intro P O pt x q hx hl
 simp only [List.length_append,List.length_cons,List.length_nil] at hl
 obtain ⟨y,hy,ho⟩:=open_is (P:=P) (pt:=pt) hx (by omega:O.length<12)
 rw [List.append_assoc,List.append_assoc]
 show foldT _ (letL (40 :: (u++([41]++q))) false)=_
 rw [let_plain (by decide)]
 have t40:takeR ⟨P,O,pt,x,none⟩ 40 false=some ⟨P++Jn x,O++[(pt,y)],false,0,none⟩:=by rw [<- ho]; rfl
 rw [foldT_cons t40,h3 _ _ _ (by rw [List.length_append]; simp; omega)]
 show foldT _ (letL (41 :: q) false)=_
 rw [let_plain (by decide)]
 have t41:takeR ⟨P++Jn x++I',O++[(pt,y)],pt',x',none⟩ 41 false=some ⟨P++Jn x++I,O,pt,Dn x,none⟩:=by
  show closeR _=_
  rw [close_is h1,fins_app,<- h2]
  show some (RdS.mk _ _ _ (y+1) _)=_
  rw [hy]
 rw [foldT_cons t41]
theorem sign_run {u:List Int} {I:List It} {c op:Int} (h:Run0 u I) (hc:c≠92) (hs:standsB c false marksB=false) (hm:∀ σ,markR σ c=repeatR σ op):Run0 (u++[c]) (I++[(op,[])]):=by
 intro P O pt x q hx hl
 simp only [List.length_append,List.length_cons,List.length_nil] at hl
 rw [List.append_assoc,h P O pt x _ hx (by omega)]
 show foldT _ (letL (c :: q) false)=_
 rw [let_plain hc]
 have t:takeR ⟨P++Jn x++I,O,pt,Dn x,none⟩ c false=some ⟨P++Jn x++(I++[(op,[])]),O,pt,Dn x,none⟩:=by
  show (if standsB c false marksB=true then _ else markR _ c)=_
  rw [if_neg (by rw [hs]; decide),hm]
  unfold repeatR
  rw [if_neg (by show ¬ Dn x=0; unfold Dn; split<;>decide)]
  simp [putR]
 rw [foldT_cons t]
theorem join_run {u v:List Int} {I J:List It} (h:Run1 u I) (k:Run0 v J):Run1 (u++v) (I++J++[(2,[])]):=by
 obtain ⟨I',x',h1,h2,h3⟩:=h
 refine ⟨I++J,2,.inr rfl,by simp [Jn],fun P O pt q hl=>?_⟩
 simp only [List.length_append] at hl
 rw [List.append_assoc,h3 P O pt _ (by omega),k _ O pt x' q (by rcases h1 with z | z<;>simp [z]) (by omega),h2]
 have:Dn x'=2:=by rcases h1 with z | z<;>subst z<;>rfl
 rw [this]
 simp
theorem alt_run {u v:List Int} {I J:List It} (h:Run2 u I) (k:Run1 v J):Run2 (u++[124]++v) (I++J++[(3,[])]):=by
 obtain ⟨I',pt',x',h1,h2,h3⟩:=h
 obtain ⟨J',y',k1,k2,k3⟩:=k
 refine ⟨I++J',true,y',k1,?_,fun P O q hl=>?_⟩
 .rw [k2]; unfold fins Jn
  rcases k1 with z | z<;>subst z<;>simp
 .simp only [List.length_append,List.length_cons,List.length_nil] at hl
  rw [List.append_assoc,List.append_assoc,h3 P O _ (by omega)]
  show foldT _ (letL (124 :: (v++q)) false)=_
  rw [let_plain (by decide)]
  have t:takeR ⟨P++I',O,pt',x',none⟩ 124 false=some ⟨P++I,O,true,0,none⟩:=by
   show endR _=_
   rw [end_is h1,fins_app,<- h2]
  rw [foldT_cons t,k3 _ O true q (by omega)]
  simp
theorem one_letter {c:Int} {e:Bool} {r:Rg} (h:((foldT rd0 [(c,e)]).bind finR).map RdS.items=some [(1,[r])]):∀ σ:RdS,σ.cls=none->takeR σ c e=some (addClassR σ [r]):=by
 intro σ hσ
 have hc:takeR σ c e=if standsB c e marksB=true then some (addClassR σ [(c,c)]) else markR σ c:=by unfold takeR; rw [hσ]
 have h0:foldT rd0 [(c,e)]=if standsB c e marksB=true then some (addClassR rd0 [(c,c)]) else markR rd0 c:=by
  rw [foldT]
  have:takeR rd0 c e=if standsB c e marksB=true then some (addClassR rd0 [(c,c)]) else markR rd0 c:=rfl
  rw [this]
  cases (if standsB c e marksB=true then some (addClassR rd0 [(c,c)]) else markR rd0 c:Option RdS)<;>rfl
 rw [h0] at h
 rw [hc]
 split
 .rename_i hs
  rw [if_pos hs] at h
  have h:some [((1:Int),[(c,c)])]=some [(1,[r])]:=h
  have:(c,c)=r:=by simpa using h
  rw [this]
 .rename_i hs
  rw [if_neg hs] at h
  unfold markR at h ⊢
  by_cases h1:c=40
  .rw [if_pos h1] at h; cases h
  rw [if_neg h1] at h ⊢
  by_cases h2:c=41
  .rw [if_pos h2] at h; cases h
  rw [if_neg h2] at h ⊢
  by_cases h3:c=91
  .rw [if_pos h3] at h; cases h
  rw [if_neg h3] at h ⊢
  by_cases h4:c=46
  .rw [if_pos h4] at h ⊢
   have h:some [((1:Int),[((32:Int),(126:Int))])]=some [(1,[r])]:=h
   have:((32:Int),(126:Int))=r:=by simpa using h
   rw [this]
  rw [if_neg h4] at h ⊢
  by_cases h5:c=124
  .rw [if_pos h5] at h; cases h
  rw [if_neg h5] at h ⊢
  by_cases h6:c=42
  .rw [if_pos h6] at h; cases h
  rw [if_neg h6] at h ⊢
  by_cases h7:c=43
  .rw [if_pos h7] at h; cases h
  rw [if_neg h7] at h ⊢
  by_cases h8:c=63
  .rw [if_pos h8] at h; cases h
  rw [if_neg h8] at h
  cases h
theorem parse_run {s:ByteArray} {l:List It} (h:parseR s=some l):(1<=s.size/\s.size<=24)/\((foldT rd0 (letL (bytesI s) false)).bind finR).map RdS.items=some l:=by
 unfold parseR at h
 split at h
 .cases h
 .rename_i hz
  refine ⟨by omega,?_⟩
  unfold readR at h
  split at h
  .cases h
  .rename_i σ hf
   split at h
   .cases h
   .rename_i τ ht
    rw [hf]
    show (finR σ).map RdS.items=_
    rw [ht]
    exact h
theorem run_parse {s:ByteArray} {l:List It} (h1:1<=s.size) (h2:s.size<=24) (h:((foldT rd0 (letL (bytesI s) false)).bind finR).map RdS.items=some l):parseR s=some l:=by
 unfold parseR
 rw [if_neg (by omega)]
 unfold readR
 cases hf:foldT rd0 (letL (bytesI s) false) with
 | none=>rw [hf] at h; cases h
 | some σ =>
   rw [hf] at h
   have h:(finR σ).map RdS.items=some l:=h
   cases ht:finR σ with
   | none=>rw [ht] at h; cases h
   | some τ =>
     rw [ht] at h
     simp only [ht]
     exact h
theorem letter_run {s:ByteArray} {c:Int} {e:Bool} {r:Rg} (hs:said s [(1,[r])]=true) (hl:∀ q,letL (bytesI s++q) false=(c,e) :: letL q false):Run0 (bytesI s) [(1,[r])]:=by
 have hp:parseR s=some [(1,[r])]:=of_decide_eq_true hs
 obtain ⟨_,h1⟩:=parse_run hp
 have h0:=hl []
 rw [List.append_nil] at h0
 have h0:letL (bytesI s) false=[(c,e)]:=h0
 rw [h0] at h1
 intro P O pt x q hx _
 rw [hl,foldT_cons (one_letter h1 _ rfl),add_is hx]
theorem class_run {L:List Rg} (hne:L≠[]) (h:∀ r∈L,okRg r):Run0 (bytesI (classT L)) [(1,L)]:=by
 have brace:Run0 (bytesI (braceT L)) [(1,L)]:=by
  intro P O pt x q hx hl
  unfold braceT at hl ⊢
  rw [bytesI_app,bytesI_app,ranges_run L _ h] at hl ⊢
  have e0:bytesI (ByteArray.mk #[])=[]:=rfl
  have e1:bytesI (ByteArray.mk #[91])=[91]:=rfl
  have e2:bytesI (ByteArray.mk #[93])=[93]:=rfl
  rw [e0,e1,e2] at hl ⊢
  simp only [List.length_append,List.length_cons,List.length_nil] at hl
  rw [List.append_assoc,List.append_assoc,List.nil_append]
  show foldT _ (letL (91 :: ((L.flatMap fun r=>bytesI (rangeT r))++([93]++q))) false)=_
  rw [let_plain (by decide)]
  have t91:takeR ⟨P,O,pt,x,none⟩ 91 false=some ⟨P,O,pt,x,some ([],0)⟩:=by
   show openC _=_
   exact if_pos (show O.length<12 by omega)
  rw [foldT_cons t91]
  obtain ⟨pl',p1,p2⟩:=cls_run L ⟨P,O,pt,x,some ([],0)⟩ [] 0 ([93]++q) h (.inl rfl) rfl
  rw [p2]
  show foldT _ (letL (93 :: q) false)=_
  rw [let_plain (by decide)]
  have t93:takeR ⟨P,O,pt,x,some ([]++L,pl')⟩ 93 false=some { addClassR ⟨P,O,pt,x,some ([]++L,pl')⟩ ([]++L) with cls:=none }:=by
   unfold takeR
   show inClassR _ ([]++L) pl' 93 false=_
   unfold inClassR
   rw [if_neg (by decide),if_neg (by decide),if_pos rfl,if_pos]
   unfold wholeC
   have h1:0<([]++L).length:=by rw [List.nil_append]; exact List.length_pos_iff.2 hne
   have h2:pl'≠2:=by rcases p1 with z | z<;>omega
   simp [h1,h2]
   simpa using h1
  rw [foldT_cons t93,add_is hx]
  rfl
 unfold classT
 split
 .rename_i r
  have hr:=h r (by simp)
  have hv:vis r.1:=⟨hr.2.1,by have:=hr.1; have:=hr.2.2; omega⟩
  split
  .rename_i hs
   exact letter_run hs (c:=46) (e:=false) fun q=>rfl
  split
  .rename_i hs
   by_cases h92:r.1=92
   .exfalso
    have:bytesI (b1B r.1)=[92]:=by rw [b1_bytes hv,h92]
    obtain ⟨_,h1⟩:=parse_run (of_decide_eq_true hs:parseR (b1B r.1)=some [(1,[r])])
    rw [this] at h1
    cases h1
   .exact letter_run hs (c:=r.1) (e:=false) fun q=>by rw [b1_bytes hv]; exact let_plain h92
  split
  .rename_i hs
   exact letter_run hs (c:=r.1) (e:=true) fun q=>by rw [bytesI_app,b1_bytes hv]; exact let_esc
  .exact brace
 .exact brace
def Ptn.okT:Ptn->Prop
 | .cls L=>L≠[]/\∀ r∈L,okRg r
 | .join a b=>a.okT/\b.okT
 | .alt a b=>a.okT/\b.okT
 | .star a=>a.okT
 | .plus a=>a.okT
 | .may a=>a.okT
def RunK (k:Int) (u:List Int) (I:List It):Prop:=if k=0 then Run0 u I else if k=1 then Run1 u I else Run2 u I
theorem RunK.to2 {k:Int} {u:List Int} {I:List It} (h:RunK k u I):Run2 u I:=by
 unfold RunK at h
 split at h
 .exact h.to1.to2
 split at h
 .exact h.to2
 .exact h
theorem brk_bytes (k l:Int) (s:ByteArray):bytesI (brk k l s)=if k<l then [40]++bytesI s++[41] else bytesI s:=by
 unfold brk
 split
 .rw [bytesI_app,bytesI_app]; rfl
 .rfl
theorem brk0 {t:Ptn} (h:RunK t.loose (bytesI t.text) t.items):Run0 (bytesI (brk 0 t.loose t.text)) t.items:=by
 rw [brk_bytes]
 split
 .exact h.to2.brk
 .rename_i hn
  have:t.loose=0:=by cases t<;>simp [Ptn.loose] at hn ⊢
  rw [this] at h
  exact h
theorem brk1 {t:Ptn} (h:RunK t.loose (bytesI t.text) t.items):Run1 (bytesI (brk 1 t.loose t.text)) t.items:=by
 rw [brk_bytes]
 split
 .exact h.to2.brk.to1
 .rename_i hn
  have:t.loose=0\/t.loose=1:=by cases t<;>simp [Ptn.loose] at hn ⊢
  rcases this with q | q
  .rw [q] at h; exact Run0.to1 h
  .rw [q] at h; exact h
theorem brk2 {t:Ptn} (h:RunK t.loose (bytesI t.text) t.items):Run2 (bytesI (brk 2 t.loose t.text)) t.items:=by
 rw [brk_bytes]
 split
 .exact h.to2.brk.to1.to2
 .exact h.to2
theorem text_run:∀ t:Ptn,t.okT->RunK t.loose (bytesI t.text) t.items
 | .cls L,h=>class_run h.1 h.2
 | .join a b,h=>by
   have h1:=brk1 (text_run a h.1)
   have h2:=brk0 (text_run b h.2)
   show Run1 _ _
   rw [Ptn.text,bytesI_app]
   exact join_run h1 h2
 | .alt a b,h=>by
   have h1:=brk2 (text_run a h.1)
   have h2:=brk1 (text_run b h.2)
   show Run2 _ _
   rw [Ptn.text,bytesI_app,bytesI_app]
   exact alt_run h1 h2
 | .star a,h=>by
   have h1:=brk0 (text_run a h)
   show Run0 _ _
   rw [Ptn.text,bytesI_app]
   exact sign_run h1 (by decide) rfl fun σ=>rfl
 | .plus a,h=>by
   have h1:=brk0 (text_run a h)
   show Run0 _ _
   rw [Ptn.text,bytesI_app]
   exact sign_run h1 (by decide) rfl fun σ=>rfl
 | .may a,h=>by
   have h1:=brk0 (text_run a h)
   show Run0 _ _
   rw [Ptn.text,bytesI_app]
   exact sign_run h1 (by decide) rfl fun σ=>rfl
theorem text_said {t:Ptn} (h:t.okT) (h1:1<=t.text.size) (h2:t.text.size<=24):said t.text t.items=true:=by
 refine decide_eq_true (run_parse h1 h2 ?_)
 obtain ⟨I',pt',x',q1,q2,q3⟩:=(text_run t h).to2
 have:=q3 [] [] [] (by rw [bytes_len]; simpa using h2)
 rw [List.append_nil] at this
 have e0:(⟨[],[],false,0,none⟩:RdS)=rd0:=rfl
 rw [e0] at this
 rw [this]
 show ((some (RdS.mk ([]++I') [] pt' x' none)).bind finR).map RdS.items=_
 show (endR _).map RdS.items=_
 rw [end_is q1,fins_app,<- q2]
 rfl
def cK (k:Int) (t:Ptn):Nat:=(brk k t.loose t.text).size
theorem cK_eq (k:Int) (t:Ptn):cK k t=t.text.size+if k<t.loose then 2 else 0:=by
 unfold cK brk
 split
 .rw [size_app,size_app,lit1,lit1]; omega
 .rfl
theorem loose_in (t:Ptn):0<=t.loose/\t.loose<=2:=by cases t<;>simp [Ptn.loose]
theorem c23 (t:Ptn):cK 1 t<=cK 0 t:=by
 rw [cK_eq,cK_eq]
 have:=loose_in t
 split<;>split<;>omega
theorem c32 (t:Ptn):cK 2 t<=cK 1 t:=by
 rw [cK_eq,cK_eq]
 have:=loose_in t
 split<;>split<;>omega
theorem c02 (t:Ptn):cK 0 t<=cK 2 t+2:=by
 rw [cK_eq,cK_eq]
 split<;>split<;>omega
theorem c2t (t:Ptn):cK 2 t=t.text.size:=by
 rw [cK_eq]
 have:=loose_in t
 rw [if_neg (by omega)]; rfl
theorem c_join (a b:Ptn):cK 1 (.join a b)=cK 1 a+cK 0 b:=by
 rw [cK_eq]
 show (Ptn.text (.join a b)).size+_=_
 rw [Ptn.text,size_app]
 rfl
theorem c_alt (a b:Ptn):cK 2 (.alt a b)=cK 2 a+1+cK 1 b:=by
 rw [c2t,Ptn.text,size_app,size_app]
 rfl
theorem c_star (a:Ptn):cK 0 (.star a)=cK 0 a+1:=by
 rw [cK_eq]
 show (Ptn.text (.star a)).size+0=_
 rw [Ptn.text,size_app]; rfl
theorem c_plus (a:Ptn):cK 0 (.plus a)=cK 0 a+1:=by
 rw [cK_eq]
 show (Ptn.text (.plus a)).size+0=_
 rw [Ptn.text,size_app]; rfl
theorem c_may (a:Ptn):cK 0 (.may a)=cK 0 a+1:=by
 rw [cK_eq]
 show (Ptn.text (.may a)).size+0=_
 rw [Ptn.text,size_app]; rfl
theorem c_cls (L:List Rg):cK 0 (.cls L)=(classT L).size:=by rw [cK_eq]; rfl
theorem classT_le (L:List Rg):(classT L).size<=(braceT L).size:=by
 unfold classT
 split
 .rename_i r
  have h3:3<=(braceT [r]).size:=by
   unfold braceT
   rw [size_app,size_app,lit1,lit1]
   have:1<=(rangesT [r] (ByteArray.mk #[])).size:=by
    have e:(ByteArray.mk #[]).size=0:=rfl
    simp only [rangesT,size_app,e]
    have hb:∀ c,1<=(byteT c).size:=fun c=>by
     unfold byteT
     split
     .rw [b1B_size]; omega
     .rw [size_app,b1B_size,lit1]; omega
    unfold rangeT
    split
    .have:=hb r.1; omega
    .rw [size_app,size_app]
     have:=hb r.1; omega
   omega
  split
  .rw [lit1]; omega
  split
  .rw [b1B_size]; omega
  split
  .rw [size_app,b1B_size,lit1]; omega
  .exact Nat.le_refl _
 .exact Nat.le_refl _
theorem rangesT_snoc:∀ (l:List Rg) (r:Rg) (s:ByteArray),rangesT (l++[r]) s=rangesT l s++rangeT r
 | [],r,s=>rfl
 | x :: l,r,s=>by
   show rangesT (l++[r]) (s++rangeT x)=rangesT l (s++rangeT x)++rangeT r
   exact rangesT_snoc l r _
def rS (l:List Rg):Nat:=(rangesT l (ByteArray.mk #[])).size
theorem rS_snoc (l:List Rg) (r:Rg):rS (l++[r])=rS l+(rangeT r).size:=by
 unfold rS; rw [rangesT_snoc,size_app]
theorem rS_nil:rS []=0:=rfl
theorem brace_rS (L:List Rg):(braceT L).size=rS L+2:=by
 unfold braceT rS; rw [size_app,size_app,lit1,lit1]; omega
def PA (pt:Bool) (I:List It) (k:Nat):Prop:=(pt=false/\I=[])\/(pt=true/\∃ A:Ptn,I=A.items/\cK 2 A+1<=k)
def PX (x:Int) (I:List It) (k:Nat):Prop:=(x=0/\I=[])\/(x=1/\∃ J:Ptn,I=J.items/\cK 0 J<=k)\/(x=2/\∃ J B:Ptn,I=J.items++B.items/\cK 1 J+cK 0 B<=k)
def PY (y:Int) (I:List It) (k:Nat):Prop:=(y=0/\I=[])\/(y=1/\∃ J:Ptn,I=J.items/\cK 1 J<=k)
def PL (pt:Bool) (x:Int) (I:List It) (k:Nat):Prop:=∃ IA IX ka kx,I=IA++IX/\PA pt IA ka/\PX x IX kx/\ka+kx<=k
def PG (g:Bool × Int) (I:List It) (k:Nat):Prop:=∃ IA IX ka kx,I=IA++IX/\PA g.1 IA ka/\PY g.2 IX kx/\ka+kx+1<=k
def PO:List (Bool × Int)->List It->Nat->Prop
 | [],I,k=>I=[]
 | g :: r,I,k=>∃ Ig Ir kg kr,I=Ig++Ir/\PG g Ig kg/\PO r Ir kr/\kg+kr<=k
def KC:Option (List Rg × Int)->Nat->Prop
 | none,_=>True
 | some (l,pl),k=>1+rS l+(if pl=2 then 1 else 0)<=k/\(pl≠0->∃ l' c,l=l'++[(c,c)])
theorem PO.snoc:∀ {r:List (Bool × Int)} {g:Bool × Int} {I J:List It} {k m:Nat},PO r I k->PG g J m->PO (r++[g]) (I++J) (k+m)
 | [],g,I,J,k,m,h,hg=>by
   have h:I=[]:=h
   subst h
   exact ⟨J,[],m,0,by simp,hg,rfl,by omega⟩
 | a :: r,g,I,J,k,m,⟨Ig,Ir,kg,kr,h1,h2,h3,h4⟩,hg=>⟨Ig,Ir++J,kg,kr+m,by rw [h1,List.append_assoc],h2,h3.snoc hg,by omega⟩
theorem PO.unsnoc:∀ {r:List (Bool × Int)} {g:Bool × Int} {I:List It} {k:Nat},PO (r++[g]) I k->∃ I1 J k1 m,I=I1++J/\PO r I1 k1/\PG g J m/\k1+m<=k
 | [],g,I,k,⟨Ig,Ir,kg,kr,h1,h2,h3,h4⟩=>by
   have h3:Ir=[]:=h3
   subst h3
   exact ⟨[],Ig,0,kg,by rw [h1]; simp,rfl,h2,by omega⟩
 | a :: r,g,I,k,⟨Ig,Ir,kg,kr,h1,h2,h3,h4⟩=>by
   obtain ⟨I1,J,k1,m,q1,q2,q3,q4⟩:=PO.unsnoc h3
   exact ⟨Ig++I1,J,kg+k1,m,by rw [h1,q1,List.append_assoc],⟨Ig,I1,kg,k1,rfl,h2,q2,by omega⟩,q3,by omega⟩
def Cst (σ:RdS) (n:Nat):Prop:=∃ Iq IL ko kl kc,σ.items=Iq++IL/\PO σ.outer Iq ko/\PL σ.parted σ.atoms IL kl/\KC σ.cls kc/\ko+kl+kc<=n
theorem PL.add {pt:Bool} {x:Int} {I:List It} {k:Nat} (h:PL pt x I k) (hx:x=0\/x=1\/x=2) {C:Ptn}:PL pt (Dn x) (I++Jn x++C.items) (k+cK 0 C):=by
 obtain ⟨IA,IX,ka,kx,h1,h2,h3,h4⟩:=h
 rcases h3 with ⟨q1,q2⟩ | ⟨q1,J,q2,q3⟩ | ⟨q1,J,B,q2,q3⟩
 .subst q1; subst q2
  exact ⟨IA,C.items,ka,cK 0 C,by rw [h1]; simp [Jn],h2,.inr (.inl ⟨rfl,C,rfl,Nat.le_refl _⟩),by omega⟩
 .subst q1
  have:=c23 J
  exact ⟨IA,J.items++C.items,ka,kx+cK 0 C,by rw [h1,q2]; simp [Jn],h2,.inr (.inr ⟨rfl,J,C,rfl,by omega⟩),by omega⟩
 .subst q1
  have:=c_join J B
  exact ⟨IA,(Ptn.join J B).items++C.items,ka,kx+cK 0 C,by rw [h1,q2]; simp [Jn,Ptn.items],h2,.inr (.inr ⟨rfl,.join J B,C,rfl,by omega⟩),by omega⟩
theorem PL.open_ {pt:Bool} {x:Int} {I:List It} {k:Nat} (h:PL pt x I k) {y:Int} (hy:y+1=Dn x):PG (pt,y) (I++Jn x) (k+1):=by
 obtain ⟨IA,IX,ka,kx,h1,h2,h3,h4⟩:=h
 rcases h3 with ⟨q1,q2⟩ | ⟨q1,J,q2,q3⟩ | ⟨q1,J,B,q2,q3⟩
 .subst q1; subst q2
  have:y=0:=by simp [Dn] at hy; omega
  exact ⟨IA,[],ka,0,by rw [h1]; simp [Jn],h2,.inl ⟨this,rfl⟩,by omega⟩
 .subst q1
  have:=c23 J
  have:y=1:=by simp [Dn] at hy; omega
  exact ⟨IA,J.items,ka,kx,by rw [h1,q2]; simp [Jn],h2,.inr ⟨this,J,rfl,by omega⟩,by omega⟩
 .subst q1
  have:=c_join J B
  have:y=1:=by simp [Dn] at hy; omega
  exact ⟨IA,(Ptn.join J B).items,ka,kx,by rw [h1,q2]; simp [Jn,Ptn.items],h2,.inr ⟨this,.join J B,rfl,by omega⟩,by omega⟩
theorem PL.end_ {pt:Bool} {x:Int} {I:List It} {k:Nat} (h:PL pt x I k) (hx:x=1\/x=2):∃ T:Ptn,fins I pt x=T.items/\cK 2 T<=k:=by
 obtain ⟨IA,IX,ka,kx,h1,h2,h3,h4⟩:=h
 obtain ⟨J,hJ,hJc⟩:∃ J:Ptn,IX++Jn x=J.items/\cK 1 J<=kx:=by
  rcases h3 with ⟨q1,q2⟩ | ⟨q1,J,q2,q3⟩ | ⟨q1,J,B,q2,q3⟩
  .omega
  .subst q1
   have:=c23 J
   exact ⟨J,by rw [q2]; simp [Jn],by omega⟩
  .subst q1
   have:=c_join J B
   exact ⟨.join J B,by rw [q2]; simp [Jn,Ptn.items],by omega⟩
 have hf:fins I pt x=IA++J.items++(if pt=true then [(3,[])] else []):=by
  rw [<- hJ,h1]
  unfold fins Jn
  rcases hx with q | q<;>subst q<;>simp
 rcases h2 with ⟨q1,q2⟩ | ⟨q1,A,q2,q3⟩
 .subst q1; subst q2
  have:=c32 J
  exact ⟨J,by rw [hf]; simp,by omega⟩
 .subst q1
  have:=c_alt A J
  exact ⟨.alt A J,by rw [hf,q2]; simp [Ptn.items],by omega⟩
theorem end_inv {σ τ:RdS} (h:endR σ=some τ) (hx:σ.atoms=0\/σ.atoms=1\/σ.atoms=2):(σ.atoms=1\/σ.atoms=2)/\τ=⟨fins σ.items σ.parted σ.atoms,σ.outer,true,0,σ.cls⟩:=by
 obtain ⟨I,O,pt,x,cl⟩:=σ
 have hx:x=0\/x=1\/x=2:=hx
 rcases hx with q | q | q<;>subst q
 .cases h
 .refine ⟨.inl rfl,?_⟩
  cases pt<;>(cases h; simp [joinR,putR,fins])
 .refine ⟨.inr rfl,?_⟩
  cases pt<;>(cases h; simp [joinR,putR,fins])
theorem stand_size {c:Int} {e:Bool} (h:standsB c e clsB=true):(byteT c).size<=if e=true then 2 else 1:=by
 obtain ⟨h1,h2⟩:=stands_rg h
 rw [byteT_eq ⟨h1,h2⟩]
 cases e with
 | true =>
   rw [if_pos rfl]
   split
   .rw [size_app,b1B_size,lit1]; omega
   .rw [b1B_size]; omega
 | false =>
   have:c∉clsB:=by
    unfold standsB at h
    simp only [Bool.and_eq_true,beq_iff_eq] at h
    exact of_decide_eq_false h.2.2
   rw [if_neg this,if_neg (by decide),b1B_size]
   omega
theorem mark_size {c:Int} {e:Bool} (h:standsB c e marksB=true):(classT [(c,c)]).size<=if e=true then 2 else 1:=by
 obtain ⟨h1,h2⟩:=stands_rg h
 have hv:vis c:=⟨h1,h2⟩
 have hfin:((foldT rd0 [(c,e)]).bind finR).map RdS.items=some [(1,[(c,c)])]:=by
  have:takeR rd0 c e=some (addClassR rd0 [(c,c)]):=if_pos h
  rw [foldT,this]; rfl
 have hs:(if e=true then ByteArray.mk #[92]++b1B c else b1B c).size<=2/\said (if e=true then ByteArray.mk #[92]++b1B c else b1B c) [(1,[(c,c)])]=true:=by
  cases e with
  | true =>
    rw [if_pos rfl]
    have hb:bytesI (ByteArray.mk #[92]++b1B c)=[92,c]:=by rw [bytesI_app,b1_bytes hv]; rfl
    refine ⟨by rw [size_app,b1B_size,lit1]; omega,decide_eq_true (run_parse (by rw [size_app,b1B_size,lit1]; omega) (by rw [size_app,b1B_size,lit1]; omega) ?_)⟩
    rw [hb,let_esc]
    exact hfin
  | false =>
    rw [if_neg (by decide)]
    have h92:c≠92:=fun q=>by subst q; revert h; decide
    refine ⟨by rw [b1B_size]; omega,decide_eq_true (run_parse (by rw [b1B_size]; omega) (by rw [b1B_size]; omega) ?_)⟩
    rw [b1_bytes hv,let_plain h92]
    exact hfin
 rw [classT_one]
 cases e with
 | true =>
   rw [if_pos rfl] at hs ⊢
   simp only [tryT]
   split
   .rw [lit1]; omega
   split
   .rw [b1B_size]; omega
   rw [if_pos hs.2]
   exact hs.1
 | false =>
   rw [if_neg (by decide)] at hs ⊢
   simp only [tryT]
   split
   .rw [lit1]; omega
   rw [if_pos hs.2,b1B_size]; omega
def lw (e:Bool):Nat:=if e=true then 2 else 1
theorem Cst.class_ {I:List It} {O:List (Bool × Int)} {pt:Bool} {x:Int} {cl:Option (List Rg × Int)} {n w:Nat} {L:List Rg} (h:Cst ⟨I,O,pt,x,none⟩ n) (hx:x=0\/x=1\/x=2) (hw:(classT L).size<=w):Cst (addClassR ⟨I,O,pt,x,none⟩ L) (n+w):=by
 obtain ⟨Iq,IL,ko,kl,kc,h1,h2,h3,h4,h5⟩:=h
 have h1:I=Iq++IL:=h1
 have h3:PL pt x IL kl:=h3
 rw [add_is hx]
 have:=h3.add hx (C:=.cls L)
 rw [c_cls] at this
 exact ⟨Iq,IL++Jn x++[(1,L)],ko,kl+(classT L).size,0,by show I++Jn x++[(1,L)]=_; rw [h1]; simp,h2,this,trivial,by omega⟩
theorem take_cost {σ τ:RdS} {c:Int} {e:Bool} {n:Nat} (h:Cst σ n) (hi:Iv σ) (ht:takeR σ c e=some τ):Cst τ (n+lw e):=by
 obtain ⟨I,O,pt,x,cl⟩:=σ
 have hx:x=0\/x=1\/x=2:=by have:=hi.at_; have:0<=x/\x<=2:=this; omega
 have hlw:1<=lw e:=by unfold lw; split<;>omega
 unfold takeR at ht
 cases cl with
 | some lp =>
   obtain ⟨l,pl⟩:=lp
   have ht:inClassR ⟨I,O,pt,x,some (l,pl)⟩ l pl c e=some τ:=ht
   obtain ⟨Iq,IL,ko,kl,kc,h1,h2,h3,h4,h5⟩:=h
   obtain ⟨k1,k2⟩:1+rS l+(if pl=2 then 1 else 0)<=kc/\(pl≠0->∃ l' c,l=l'++[(c,c)]):=h4
   unfold inClassR at ht
   split at ht
   .rename_i hs
    have hsz:=stand_size hs
    have hsz:(byteT c).size<=lw e:=hsz
    split at ht
    .rename_i y hy
     cases ht
     unfold addC at hy
     split at hy
     .rename_i hp
      cases hy
      refine ⟨Iq,IL,ko,kl,kc+lw e,h1,h2,h3,⟨?_,fun _=>⟨l,c,rfl⟩⟩,by omega⟩
      rw [rS_snoc,if_neg (by decide)]
      have:rangeT (c,c)=byteT c:=if_pos rfl
      rw [this]
      omega
     .rename_i hp
      have hp:pl=2:=by simpa using hp
      subst hp
      obtain ⟨l',c0,rfl⟩:=k2 (by decide)
      rw [if_pos rfl,rS_snoc] at k1
      have hr0:rangeT (c0,c0)=byteT c0:=if_pos rfl
      rw [hr0] at k1
      simp only [List.getLast?_append,List.getLast?_singleton,Option.some_or] at hy
      split at hy
      .cases hy
      .have hd:(l'++[(c0,c0)]).dropLast=l':=by simp
       cases hy
       refine ⟨Iq,IL,ko,kl,kc+lw e,h1,h2,h3,⟨?_,fun q=>absurd rfl q⟩,by omega⟩
       rw [hd,rS_snoc,if_neg (by decide)]
       have:(rangeT (c0,c)).size<=(byteT c0).size+1+(byteT c).size:=by
        unfold rangeT
        split
        .show (byteT c0).size<=_; omega
        .rw [size_app,size_app,lit1]; exact Nat.le_refl _
       omega
    .cases ht
   .split at ht
    .split at ht
     .rename_i hp
      cases ht
      subst hp
      rw [if_neg (by decide)] at k1
      exact ⟨Iq,IL,ko,kl,kc+lw e,h1,h2,h3,⟨by rw [if_pos rfl]; omega,fun _=>k2 (by decide)⟩,by omega⟩
     .cases ht
    .split at ht
     .split at ht
      .rename_i hwh
       cases ht
       have e1:({ addClassR ⟨I,O,pt,x,some (l,pl)⟩ l with cls:=none }:RdS)=addClassR ⟨I,O,pt,x,none⟩ l:=by rw [add_is hx,add_is hx]
       rw [e1]
       have hp2:pl≠2:=fun q=>by subst q; revert hwh; unfold wholeC; simp
       rw [if_neg hp2] at k1
       have hb:=classT_le l
       rw [brace_rS] at hb
       have h0:Cst ⟨I,O,pt,x,none⟩ (ko+kl):=⟨Iq,IL,ko,kl,0,h1,h2,h3,trivial,by omega⟩
       obtain ⟨a1,a2,a3,a4,a5,b1,b2,b3,b4,b5⟩:=h0.class_ (cl:=none) hx (L:=l) (w:=n+lw e-(ko+kl)) (by omega)
       exact ⟨a1,a2,a3,a4,a5,b1,b2,b3,b4,by omega⟩
      .cases ht
     .cases ht
 | none =>
   have ht:(if standsB c e marksB=true then some (addClassR ⟨I,O,pt,x,none⟩ [(c,c)]) else markR ⟨I,O,pt,x,none⟩ c)=some τ:=ht
   split at ht
   .rename_i hs
    cases ht
    exact h.class_ (cl:=none) hx (mark_size hs)
   .unfold markR at ht
    have sign:∀ op (f:Ptn->Ptn),(∀ t,(f t).items=t.items++[(op,[])])->(∀ t,cK 0 (f t)=cK 0 t+1)->repeatR ⟨I,O,pt,x,none⟩ op=some τ->Cst τ (n+lw e):=by
     intro op f hf1 hf2 hr
     obtain ⟨Iq,IL,ko,kl,kc,h1,h2,⟨IA,IX,ka,kx,g1,g2,g3,g4⟩,h4,h5⟩:=h
     have h1:I=Iq++IL:=h1
     unfold repeatR at hr
     split at hr
     .cases hr
     .rename_i hx0
      have hx0:x≠0:=hx0
      cases hr
      rcases g3 with ⟨q1,q2⟩ | ⟨q1,J,q2,q3⟩ | ⟨q1,J,B,q2,q3⟩
      .exact absurd q1 hx0
      .exact ⟨Iq,IA++(f J).items,ko,kl+1,kc,by show I++[(op,[])]=_; rw [h1,g1,q2,hf1]; simp,h2,⟨IA,(f J).items,ka,kx+1,rfl,g2,.inr (.inl ⟨q1,f J,rfl,by rw [hf2]; omega⟩),by omega⟩,h4,by omega⟩
      .exact ⟨Iq,IA++(J.items++(f B).items),ko,kl+1,kc,by show I++[(op,[])]=_; rw [h1,g1,q2,hf1]; simp,h2,⟨IA,J.items++(f B).items,ka,kx+1,rfl,g2,.inr (.inr ⟨q1,J,f B,rfl,by rw [hf2]; omega⟩),by omega⟩,h4,by omega⟩
    by_cases c1:c=40
    .rw [if_pos c1] at ht
     obtain ⟨Iq,IL,ko,kl,kc,h1,h2,h3,h4,h5⟩:=h
     have h1:I=Iq++IL:=h1
     have hO:O.length<12:=by
      rcases Nat.lt_or_ge O.length 12 with q | q
      .exact q
      .unfold openR at ht; rw [if_neg (by show ¬ O.length<12; omega)] at ht; cases ht
     obtain ⟨y,hy,ho⟩:=open_is (P:=I) (O:=O) (pt:=pt) hx hO
     rw [ho] at ht
     cases ht
     have hg:=PL.open_ h3 hy
     exact ⟨Iq++(IL++Jn x),[],ko+(kl+1),0,0,by show I++Jn x=_; rw [h1]; simp,PO.snoc h2 hg,⟨[],[],0,0,rfl,.inl ⟨rfl,rfl⟩,.inl ⟨rfl,rfl⟩,by omega⟩,trivial,by omega⟩
    rw [if_neg c1] at ht
    by_cases c2:c=41
    .rw [if_pos c2] at ht
     obtain ⟨Iq,IL,ko,kl,kc,h1,h2,h3,h4,h5⟩:=h
     have h1:I=Iq++IL:=h1
     have h2:PO O Iq ko:=h2
     have h3:PL pt x IL kl:=h3
     unfold closeR at ht
     split at ht
     .cases ht
     .rename_i g hg
      have hO:O=O.dropLast++[g]:=by
       obtain ⟨ys,hys⟩:=List.getLast?_eq_some_iff.1 (show O.getLast? = some g from hg)
       rw [hys]; simp
      split at ht
      .cases ht
      .rename_i τ' he
       obtain ⟨hx12,rfl⟩:=end_inv he hx
       have hx12:x=1\/x=2:=hx12
       rw [hO] at h2
       obtain ⟨I1,J,k1,m,q1,q2,q3,q4⟩:=PO.unsnoc h2
       obtain ⟨T,t1,t2⟩:=PL.end_ h3 hx12
       obtain ⟨IA,IX,ka,kx,g1,g2,g3,g4⟩:=q3
       have hc:=c02 T
       have hfi:fins I pt x=Iq++fins IL pt x:=by rw [h1,fins_app]
       cases ht
       refine ⟨I1,IA++(IX++T.items),k1,ka+(kx+cK 0 T),0,?_,q2,⟨IA,IX++T.items,ka,kx+cK 0 T,rfl,g2,?_,by omega⟩,trivial,by omega⟩
       .show fins I pt x=_
        rw [hfi,t1,q1,g1]; simp
       .rcases g3 with ⟨z1,z2⟩ | ⟨z1,J',z2,z3⟩
        .exact .inr (.inl ⟨by show g.2+1=1; omega,T,by rw [z2]; rfl,by omega⟩)
        .exact .inr (.inr ⟨by show g.2+1=2; omega,J',T,by rw [z2],by omega⟩)
    rw [if_neg c2] at ht
    by_cases c3:c=91
    .rw [if_pos c3] at ht
     unfold openC at ht
     split at ht
     .cases ht
      obtain ⟨Iq,IL,ko,kl,kc,h1,h2,h3,h4,h5⟩:=h
      exact ⟨Iq,IL,ko,kl,lw e,h1,h2,h3,⟨by rw [rS_nil]; simp; omega,fun q=>absurd rfl q⟩,by omega⟩
     .cases ht
    rw [if_neg c3] at ht
    by_cases c4:c=46
    .rw [if_pos c4] at ht
     cases ht
     exact h.class_ (cl:=none) hx (by
      have:(classT [((32:Int),(126:Int))]).size=1:=by decide +kernel
      rw [this]; exact hlw)
    rw [if_neg c4] at ht
    by_cases c5:c=124
    .rw [if_pos c5] at ht
     obtain ⟨Iq,IL,ko,kl,kc,h1,h2,h3,h4,h5⟩:=h
     have h1:I=Iq++IL:=h1
     obtain ⟨hx12,rfl⟩:=end_inv ht hx
     obtain ⟨T,t1,t2⟩:=PL.end_ h3 hx12
     have t1:fins IL pt x=T.items:=t1
     exact ⟨Iq,T.items,ko,cK 2 T+1,0,by show fins I pt x=_; rw [h1,fins_app,t1],h2,⟨T.items,[],cK 2 T+1,0,by simp,.inr ⟨rfl,T,rfl,Nat.le_refl _⟩,.inl ⟨rfl,rfl⟩,by omega⟩,trivial,by omega⟩
    rw [if_neg c5] at ht
    by_cases c6:c=42
    .rw [if_pos c6] at ht; exact sign 4 .star (fun t=>rfl) c_star ht
    rw [if_neg c6] at ht
    by_cases c7:c=43
    .rw [if_pos c7] at ht; exact sign 5 .plus (fun t=>rfl) c_plus ht
    rw [if_neg c7] at ht
    by_cases c8:c=63
    .rw [if_pos c8] at ht; exact sign 6 .may (fun t=>rfl) c_may ht
    rw [if_neg c8] at ht
    cases ht
def lwS:List (Int × Bool)->Nat
 | []=>0
 | (_,e) :: r=>lw e+lwS r
theorem fold_cost:∀ (l:List (Int × Bool)) (σ τ:RdS) (n:Nat),Cst σ n->Iv σ->foldT σ l=some τ->Cst τ (n+lwS l)
 | [],σ,τ,n,h,hi,hf=>by cases hf; exact h
 | (c,e) :: r,σ,τ,n,h,hi,hf=>by
  rw [foldT] at hf
  cases ht:takeR σ c e with
  | none=>rw [ht] at hf; cases hf
  | some ρ =>
    rw [ht] at hf
    have:=fold_cost r ρ τ (n+lw e) (take_cost h hi ht) (hi.take ht) hf
    rw [Nat.add_assoc] at this
    exact this
theorem let_cost:∀ (l:List Int) (b:Bool),lwS (letL l b)<=l.length+if b=true then 1 else 0
 | [],b=>by simp [letL,lwS]
 | c :: r,b=>by
   rw [letL]
   split
   .rename_i h
    have:=let_cost r true
    rw [if_pos rfl] at this
    rw [h.2.1]
    simp; omega
   .have:=let_cost r false
    rw [if_neg (by decide)] at this
    simp only [lwS,List.length_cons,lw]
    split<;>omega
theorem stk_items:∀ (t:Ptn) (m:List It) (tp:List Ptn),stkM (t.items++m) tp=stkM m (t :: tp)
 | .cls L,m,tp=>rfl
 | .join a b,m,tp=>by
   rw [Ptn.items,List.append_assoc,List.append_assoc,stk_items a,stk_items b]; rfl
 | .alt a b,m,tp=>by
   rw [Ptn.items,List.append_assoc,List.append_assoc,stk_items a,stk_items b]; rfl
 | .star a,m,tp=>by rw [Ptn.items,List.append_assoc,stk_items a]; rfl
 | .plus a,m,tp=>by rw [Ptn.items,List.append_assoc,stk_items a]; rfl
 | .may a,m,tp=>by rw [Ptn.items,List.append_assoc,stk_items a]; rfl
theorem treeD_items (t:Ptn):treeD t.items=t:=by
 have:=stk_items t [] []
 rw [List.append_nil] at this
 unfold treeD
 rw [this]; rfl
theorem okT_of:∀ (t:Ptn),(∀ i∈t.items,okIt i)->t.okT
 | .cls L,h=>by
   rcases h (1,L) (by simp [Ptn.items]) with ⟨_,h2,h3⟩ | ⟨h1,_⟩
   .exact ⟨h2,h3⟩
   .have h1:(1:Int)=2\/(1:Int)=3\/(1:Int)=4\/(1:Int)=5\/(1:Int)=6:=h1
    omega
 | .join a b,h=>⟨okT_of a fun i hi=>h i (by simp [Ptn.items,hi]),okT_of b fun i hi=>h i (by simp [Ptn.items,hi])⟩
 | .alt a b,h=>⟨okT_of a fun i hi=>h i (by simp [Ptn.items,hi]),okT_of b fun i hi=>h i (by simp [Ptn.items,hi])⟩
 | .star a,h=>okT_of a fun i hi=>h i (by simp [Ptn.items,hi])
 | .plus a,h=>okT_of a fun i hi=>h i (by simp [Ptn.items,hi])
 | .may a,h=>okT_of a fun i hi=>h i (by simp [Ptn.items,hi])
theorem text_pos:∀ (t:Ptn),1<=t.text.size
 | .cls L=>by
   show 1<=(classT L).size
   unfold classT
   have hb:1<=(braceT L).size:=by rw [brace_rS]; omega
   split
   .rename_i r
    split
    .rw [lit1]; omega
    split
    .rw [b1B_size]; omega
    split
    .rw [size_app,lit1]; omega
    .rw [brace_rS]; omega
   .exact hb
 | .join a b=>by
   have:=text_pos b
   rw [Ptn.text,size_app]
   have h:cK 0 b=(brk 0 b.loose b.text).size:=rfl
   rw [<- h,cK_eq]; omega
 | .alt a b=>by rw [Ptn.text,size_app,size_app,lit1]; omega
 | .star a=>by rw [Ptn.text,size_app,lit1]; omega
 | .plus a=>by rw [Ptn.text,size_app,lit1]; omega
 | .may a=>by rw [Ptn.text,size_app,lit1]; omega
theorem parse_tree {s:ByteArray} {l:List It} (h:parseR s=some l):said (treeD l).text l=true/\(treeD l).text.size<=24/\(treeD l).items=l:=by
 obtain ⟨hsz,hr⟩:=parse_run h
 obtain ⟨hfine,hcnt⟩:=parse_fine h
 obtain ⟨t,ht1,ht2⟩:=tree_of hfine hcnt
 cases hf:foldT rd0 (letL (bytesI s) false) with
 | none=>rw [hf] at hr; cases hr
 | some σ =>
   rw [hf] at hr
   have f0:Fine rd0.items:=⟨fun i hi=>(by cases hi),fun k h1 h2=>by have:k<=0:=h2; omega⟩
   have h0:Iv rd0:=⟨f0,rfl,(show (0:Int)<=0/\(0:Int)<=2 by decide),fun g hg=>(by cases hg),fun l pl q=>(by cases q)⟩
   have hc0:Cst rd0 0:=⟨[],[],0,0,0,rfl,rfl,⟨[],[],0,0,rfl,.inl ⟨rfl,rfl⟩,.inl ⟨rfl,rfl⟩,by omega⟩,trivial,by omega⟩
   have hc:=fold_cost _ rd0 σ 0 hc0 h0 hf
   have hiv:=h0.fold hf
   have hle:=let_cost (bytesI s) false
   rw [bytes_len,if_neg (by decide)] at hle
   have hr:(finR σ).map RdS.items=some l:=hr
   obtain ⟨I,O,pt,x,cl⟩:=σ
   cases cl with
   | some lp=>cases hr
   | none =>
     have hO:O=[]:=by
      cases ho:O with
      | nil=>rfl
      | cons g r =>
        exfalso
        rw [ho] at hr
        have:finR ⟨I,g :: r,pt,x,none⟩=none:=by
         show (if (g :: r).length=0 then endR ⟨I,g :: r,pt,x,none⟩ else none)=none
         rw [if_neg (by simp)]
        rw [this] at hr; cases hr
     subst hO
     have hr:(endR ⟨I,[],pt,x,none⟩).map RdS.items=some l:=hr
     obtain ⟨Iq,IL,ko,kl,kc,h1,h2,h3,h4,h5⟩:=hc
     have h1:I=Iq++IL:=h1
     have h2:Iq=[]:=h2
     subst h2
     have hx:x=0\/x=1\/x=2:=by have:0<=x/\x<=2:=hiv.at_; omega
     cases he:endR ⟨I,[],pt,x,none⟩ with
     | none=>rw [he] at hr; cases hr
     | some τ =>
       rw [he] at hr
       obtain ⟨hx12,hτ⟩:=end_inv he hx
       rw [hτ] at hr
       have hr:some (fins I pt x)=some l:=hr
       obtain ⟨T,t1,t2⟩:=PL.end_ h3 hx12
       have t1:fins IL pt x=T.items:=t1
       have hTl:T.items=l:=by
        rw [<- t1]
        injection hr with hr
        rw [<- hr,h1]; rfl
       have htd:treeD l=T:=by rw [<- hTl]; exact treeD_items T
       rw [htd,<- hTl]
       have hsz2:T.text.size<=s.size:=by rw [<- c2t]; omega
       exact ⟨text_said (okT_of T (by rw [hTl]; exact hfine.each)) (text_pos T) (by omega),by omega,rfl⟩
theorem parse_said {s:ByteArray} {l:List It} (h:parseR s=some l):said (treeD l).text l=true:=(parse_tree h).1
theorem items_text:∀ t:Ptn,t.items.length+1<=2*t.text.size
 | .cls L=>by
   have:=text_pos (.cls L)
   simp only [Ptn.items,List.length_cons,List.length_nil]; omega
 | .join a b=>by
   have h1:=items_text a
   have h2:=items_text b
   have e1:=cK_eq 1 a
   have e2:=cK_eq 0 b
   have:(Ptn.text (.join a b)).size=cK 1 a+cK 0 b:=by rw [Ptn.text,size_app]; rfl
   rw [this]
   simp only [Ptn.items,List.length_append,List.length_cons,List.length_nil]; omega
 | .alt a b=>by
   have h1:=items_text a
   have h2:=items_text b
   have e1:=cK_eq 2 a
   have e2:=cK_eq 1 b
   have:(Ptn.text (.alt a b)).size=cK 2 a+1+cK 1 b:=by rw [Ptn.text,size_app,size_app]; rfl
   rw [this]
   simp only [Ptn.items,List.length_append,List.length_cons,List.length_nil]; omega
 | .star a=>by
   have h1:=items_text a
   have e1:=cK_eq 0 a
   have:(Ptn.text (.star a)).size=cK 0 a+1:=by rw [Ptn.text,size_app]; rfl
   rw [this]
   simp only [Ptn.items,List.length_append,List.length_cons,List.length_nil]; omega
 | .plus a=>by
   have h1:=items_text a
   have e1:=cK_eq 0 a
   have:(Ptn.text (.plus a)).size=cK 0 a+1:=by rw [Ptn.text,size_app]; rfl
   rw [this]
   simp only [Ptn.items,List.length_append,List.length_cons,List.length_nil]; omega
 | .may a=>by
   have h1:=items_text a
   have e1:=cK_eq 0 a
   have:(Ptn.text (.may a)).size=cK 0 a+1:=by rw [Ptn.text,size_app]; rfl
   rw [this]
   simp only [Ptn.items,List.length_append,List.length_cons,List.length_nil]; omega
theorem rS_len:∀ L:List Rg,L.length<=rS L:=by
 intro L
 have hb:∀ c,1<=(byteT c).size:=fun c=>by
  unfold byteT
  split
  .rw [b1B_size]; omega
  .rw [size_app,b1B_size,lit1]; omega
 have hr:∀ r,1<=(rangeT r).size:=fun r=>by
  unfold rangeT
  split
  .exact hb r.1
  .rw [size_app,size_app]
   have:=hb r.1; omega
 have key:∀ (L:List Rg) (s:ByteArray),s.size+L.length<=(rangesT L s).size:=by
  intro L
  induction L with
  | nil=>intro s; simp [rangesT]
  | cons r L ih =>
    intro s
    have h1:=ih (s++rangeT r)
    have h2:=hr r
    rw [size_app] at h1
    simp only [rangesT,List.length_cons]
    omega
 have:=key L (ByteArray.mk #[])
 have e:(ByteArray.mk #[]).size=0:=rfl
 unfold rS
 omega
theorem ranges_text:∀ (t:Ptn) (i:It),i∈t.items->i.2.length<=t.text.size
 | .cls L,i,h=>by
   have h:i=(1,L):=by simpa [Ptn.items] using h
   subst h
   show L.length<=(classT L).size
   rcases Nat.lt_or_ge 1 L.length with q | q
   .rw [classT_many (by omega),brace_rS]
    have:=rS_len L; omega
   .have:=text_pos (.cls L)
    have:1<=(classT L).size:=this
    omega
 | .join a b,i,h=>by
   have e1:=cK_eq 1 a
   have e2:=cK_eq 0 b
   have:(Ptn.text (.join a b)).size=cK 1 a+cK 0 b:=by rw [Ptn.text,size_app]; rfl
   rw [this]
   simp only [Ptn.items,List.mem_append,List.mem_cons,List.not_mem_nil,or_false] at h
   rcases h with (h | h) | h
   .have:=ranges_text a i h; omega
   .have:=ranges_text b i h; omega
   .rw [h]; simp
 | .alt a b,i,h=>by
   have e1:=cK_eq 2 a
   have e2:=cK_eq 1 b
   have:(Ptn.text (.alt a b)).size=cK 2 a+1+cK 1 b:=by rw [Ptn.text,size_app,size_app]; rfl
   rw [this]
   simp only [Ptn.items,List.mem_append,List.mem_cons,List.not_mem_nil,or_false] at h
   rcases h with (h | h) | h
   .have:=ranges_text a i h; omega
   .have:=ranges_text b i h; omega
   .rw [h]; simp
 | .star a,i,h=>by
   have e1:=cK_eq 0 a
   have:(Ptn.text (.star a)).size=cK 0 a+1:=by rw [Ptn.text,size_app]; rfl
   rw [this]
   simp only [Ptn.items,List.mem_append,List.mem_cons,List.not_mem_nil,or_false] at h
   rcases h with h | h
   .have:=ranges_text a i h; omega
   .rw [h]; simp
 | .plus a,i,h=>by
   have e1:=cK_eq 0 a
   have:(Ptn.text (.plus a)).size=cK 0 a+1:=by rw [Ptn.text,size_app]; rfl
   rw [this]
   simp only [Ptn.items,List.mem_append,List.mem_cons,List.not_mem_nil,or_false] at h
   rcases h with h | h
   .have:=ranges_text a i h; omega
   .rw [h]; simp
 | .may a,i,h=>by
   have e1:=cK_eq 0 a
   have:(Ptn.text (.may a)).size=cK 0 a+1:=by rw [Ptn.text,size_app]; rfl
   rw [this]
   simp only [Ptn.items,List.mem_append,List.mem_cons,List.not_mem_nil,or_false] at h
   rcases h with h | h
   .have:=ranges_text a i h; omega
   .rw [h]; simp
theorem parse_good {s:ByteArray} {l:List It} (h:parseR s=some l):GoodP l:=by
 obtain ⟨hfine,hcnt⟩:=parse_fine h
 obtain ⟨t,ht1,ht2⟩:=tree_of hfine hcnt
 have htd:treeD l=t:=by rw [<- ht2]; exact treeD_items t
 obtain ⟨_,h2,h3⟩:=parse_tree h
 refine ⟨by rw [htd]; exact ht1,h3,?_,fun i hi=>?_,hfine.each⟩
 .have:=items_text (treeD l)
  rw [h3] at this
  omega
 .have:=ranges_text (treeD l) i (by rw [h3]; exact hi)
  omega
def natC (m:List Nat):List Value:=m.map fun x=>.int .i64 ((x:Nat):Int)
theorem natC_at {m:List Nat} {k x:Nat} (h:m[k]? = some x):((natC m).drop (k*1)).take 1=[.int .i64 ((x:Nat):Int)]:=dropTake rfl fun j hj=>by
 match j,hj with
 | 0,_=>simp [natC,h]
theorem ld_of {H:KH} {b n:Nat} {e:Ent} {vs:List Value} (h1:H b=some e) (h3:rd e.cells 0 n=some vs):ld H ⟨b,0,none⟩ vs:=⟨rfl,e,h1,by rw [rd_len h3]; exact h3⟩
structure StB (H:KH) (q:Nat) (m:List Nat) (N:Nat) (bp:Nat) (am:OA) (cm:Nat) (ex:List Value) (pl:List Nat):Prop where
 pt:∃ e,H q=some e/\wrB e=true/\rd e.cells 0 2=some [.slice am m.length cm,.slice (some ⟨bp,0,none⟩) N N]
 mem:Gr H 1 am m.length cm (natC m) ex
 plc:∃ e,H bp=some e/\wrB e=true/\rd e.cells 0 N=some (natC pl)
 pln:pl.length=N
 nod:m.Nodup
 lt:∀ x∈m,x<N
 inv:∀ (k x:Nat),m[k]? = some x->pl[x]? = some k
 d1:q≠bp
 d2:blk am≠some q
 d3:blk am≠some bp
def SetIn (B:List Nat) (H:KH) (q:Nat) (m:List Nat) (N:Nat):Prop:=∃ bp am cm ex pl,StB H q m N bp am cm ex pl/\B=q :: bp :: (blk am).toList
structure Fr1 (B B':List Nat) (H H':KH):Prop where
 kp:∀ k e,H k=some e->k∉B->H' k=some e
 nw:∀ b∈B',b∈B\/H b=none
theorem Fr1.refl (B:List Nat) (H:KH):Fr1 B B H H:=⟨fun _ _ q _=>q,fun _ q=>.inl q⟩
def addS (N:Nat) (m:List Nat) (x:Int):List Nat:=if x<0 then m else if (N:Int)<=x then m else if x.toNat∈m then m else m++[x.toNat]
section
variable {H : KH} {q N bp : Nat} {m : List Nat} {am : OA} {cm : Nat} {ex : List Value} {pl : List Nat}
end
theorem nodup_le:∀ (N:Nat) (m:List Nat),m.Nodup->(∀ x∈m,x<N)->m.length<=N
 | 0,m,h1,h2=>by
   match m with
   | []=>simp
   | x :: r=>have:=h2 x (by simp); omega
 | N+1,m,h1,h2=>by
   have h3:=nodup_le N (m.filter fun x=>decide (x≠N)) (h1.filter _) (fun x hx=>by
    have hx:=List.mem_filter.1 hx
    have:=h2 x hx.1
    have h4:x≠N:=of_decide_eq_true hx.2
    omega)
   have h4:m.length=(m.filter fun x=>decide (x≠N)).length+m.count N:=by
    have:=List.length_eq_countP_add_countP (fun x=>decide (x≠N)) (l:=m)
    rw [List.countP_eq_length_filter] at this
    rw [this]
    congr 1
    rw [List.count]
    apply List.countP_congr
    intro x _
    simp
   have h5:m.count N<=1:=List.nodup_iff_count.1 h1 N
   omega
def st0:St:=⟨0,0,-1,[],0⟩
def stAt (S:List St) (x:Nat):St:=(S[x]?).getD st0
def spM (S:List St):Nat->Nat->List Nat->List Nat
 | 0,_,m=>m
 | f+1,i,m=>match m[i]? with
   | none=>m
   | some x=>spM S f (i+1) ((stAt S x).free.foldl (addS S.length) m)
def clM (S:List St) (m:List Nat):List Nat:=spM S (S.length+1) 0 m
def moveM (S:List St) (c:Int) (t:List Nat) (x:Nat):List Nat:=if (stAt S x).lo<=c/\c<=(stAt S x).hi then addS S.length t (stAt S x).next else t
def stepM (S:List St) (c:Int) (m:List Nat):List Nat:=clM S (m.foldl (moveM S c) [])
def leastM (S:List St) (l:Int) (x:Nat):Int:=if (stAt S x).e≠0 then (if l=0 then (stAt S x).e else if (stAt S x).e<l then (stAt S x).e else l) else l
def endM (S:List St) (m:List Nat):Int:=m.foldl (leastM S) 0
def begM (S:List St):List Nat:=clM S (addS S.length [] 0)
def lgN (S:List St) (s:ByteArray):Nat->Nat->List Nat->Int × Int × Bool->Int × Int × Bool
 | 0,_,_,r=>r
 | f+1,i,m,r=>if stepM S (byteAt s i) m=[] then r else
    lgN S s f (i+1) (stepM S (byteAt s i) m) (if endM S (stepM S (byteAt s i) m)≠0 then (IntKind.wrap .i64 (endM S (stepM S (byteAt s i) m)-1),IntKind.wrap .i64 ((i:Int)+1),true) else r)
def nfaL (S:List St) (s:ByteArray):Int × Int × Bool:=lgN S s s.size 0 (begM S) (0,0,false)
theorem SsR.get {X:KH}:∀ {l:List St} {cs:List Value} {k:Nat} {s:St},SsR X l cs->l[k]? = some s->∃ a c,(cs.drop (k*5)).take 5=stC s a c/\kold X 1 a s.free.length=some (inC s.free)
 | [],cs,k,s,h,hk=>by simp at hk
 | t :: r,cs,0,s,⟨a,c,ds,h1,h2,h3⟩,hk=>by
   have hk:t=s:=by simpa using hk
   subst hk; subst h1
   exact ⟨a,c,by simp [stC],h2⟩
 | t :: r,cs,k+1,s,⟨a,c,ds,h1,h2,h3⟩,hk=>by
   subst h1
   have hk:r[k]? = some s:=by simpa using hk
   obtain ⟨a',c',q1,q2⟩:=SsR.get h3 hk
   refine ⟨a',c',?_,q2⟩
   have:(k+1)*5=(stC t a c).length+k*5:=by simp [stC]; omega
   rw [this,List.drop_append_of_le_length_add]
   exact q1
 where
 List.drop_append_of_le_length_add {α:Type} {l m:List α} {n:Nat}:(l++m).drop (l.length+n)=m.drop n:=by
  rw [List.drop_append]; simp
structure WkB (X H:KH) (w:Nat) (S:List St) (a:OA) (c q1 q2:Nat) (B1 B2:List Nat) (now thn:List Nat):Prop where
 le:Le X H
 xw:X w=none
 pt:∃ e,H w=some e/\wrB e=true/\rd e.cells 0 3=some [.slice a S.length c,.pointer (some ⟨q1,0,none⟩),.pointer (some ⟨q2,0,none⟩)]
 st:SsN X S a
 s1:SetIn B1 H q1 now S.length
 s2:SetIn B2 H q2 thn S.length
 x1:∀ b∈B1,X b=none/\b≠w
 x2:∀ b∈B2,X b=none/\b≠w
 d:∀ b∈B1,b∉B2
section
variable {X H : KH} {w : Nat} {S : List St} {a : OA} {c q1 q2 : Nat} {B1 B2 : List Nat} {now thn : List Nat}
end
theorem stC_ld3 {H:KH} {b o:Nat} {s:St} {af:OA} {cf:Nat} (h:ld H ⟨b,o,none⟩ (stC s af cf)):ld H ⟨b,o+3,none⟩ [.slice af s.free.length cf]:=by
 have:=ldSub h 3 1 (by simp [stC])
 simpa [stC] using this
theorem stC_ld4 {H:KH} {b o:Nat} {s:St} {af:OA} {cf:Nat} (h:ld H ⟨b,o,none⟩ (stC s af cf)):ld H ⟨b,o+4,none⟩ [.int .i64 s.e]:=by
 have:=ldSub h 4 1 (by simp [stC])
 simpa [stC] using this
theorem inC_at {m:List Int} {k:Nat} {x:Int} (h:m[k]? = some x):((inC m).drop (k*1)).take 1=[.int .i64 x]:=dropTake rfl fun j hj=>by
 match j,hj with
 | 0,_=>simp [inC,h]
theorem addS_grow {N:Nat} {m:List Nat} {x:Int}:∃ r,addS N m x=m++r:=by
 unfold addS
 split
 .exact ⟨[],by simp⟩
 split
 .exact ⟨[],by simp⟩
 split
 .exact ⟨[],by simp⟩
 .exact ⟨_,rfl⟩
theorem addF_grow {N:Nat}:∀ (f:List Int) (m:List Nat),∃ r,f.foldl (addS N) m=m++r
 | [],m=>⟨[],by simp⟩
 | x :: f,m=>by
   obtain ⟨r1,h1⟩:=addS_grow (N:=N) (m:=m) (x:=x)
   obtain ⟨r2,h2⟩:=addF_grow f (m++r1)
   exact ⟨r1++r2,by rw [List.foldl_cons,h1,h2,List.append_assoc]⟩
end Go.Ew
namespace Go.Proofs.Ytlgpleiobieniaa
open Go.Ev Go.Ew
namespace Va
section
variable (ok : EnvOk (env Try.prog))
include ok
end
end Va
end Go.Proofs.Ytlgpleiobieniaa
