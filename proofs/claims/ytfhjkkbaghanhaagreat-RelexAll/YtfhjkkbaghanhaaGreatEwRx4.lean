import Derived.Test.YtfhjkkbaghanhaaGreatEwVc2
set_option linter.unusedVariables false
set_option linter.unusedSimpArgs false
namespace Go.Ew
open Go.Ev Go.Deep
section
variable {X H : KH} {p : Nat} {σ : RdS} {kc : List Value} {ai : OA} {ci : Nat} {ao : OA} {co : Nat} {csI exo : List Value}
theorem Co.agree {H':KH} (h:Co X H p σ kc ai ci ao co csI exo) (hk:∀ k e,H k=some e->(X k=some e\/k=p\/blk ai=some k\/blk ao=some k)->H' k=some e):Co X H' p σ kc ai ci ao co csI exo where
 pt:=h.pt.agree (fun k e q=>hk k e (h.pt.le k e q) (.inl q)) h.pt.xp fun e q=>hk p e q (.inr (.inl rfl))
 xi:=h.xi
 xo:=h.xo
 items:=h.items.agree fun k e q1 q=>hk k e q (.inr (.inr (.inl q1)))
 itc:=h.itc
 outer:=h.outer.agree fun k e q1 q=>hk k e q (.inr (.inr (.inr q1)))
 small:=h.small
theorem Co.setK {a b c vs:List Value} {o:Nat} (h:Co X H p σ (a++b++c) ai ci ao co csI exo) (ho:o=4+a.length) (hb:b.length=vs.length):Co X (H.put ⟨p,o,none⟩ vs) p σ (a++vs++c) ai ci ao co csI exo where
 pt:=by
  have:=Pt.put (o:=o) (a:=[.slice ai σ.items.length ci,.slice ao σ.outer.length co,.bool σ.parted,.int .i64 σ.atoms]++a) (b:=b) (c:=c) (vs:=vs) (by simpa [List.append_assoc] using h.pt) (by rw [ho]; simp; omega) hb
  simpa [List.append_assoc] using this
 xi:=h.xi
 xo:=h.xo
 items:=h.items.agree fun k e hk q=>put_ne (h.xi k hk).2 q
 itc:=h.itc
 outer:=h.outer.agree fun k e hk q=>put_ne (h.xo k hk).2.1 q
 small:=h.small
theorem Co.k {a b c:List Value} (h:Co X H p σ (a++b++c) ai ci ao co csI exo):ld H ⟨p,4+a.length,none⟩ b:=by
 have:=ldSub h.pt.ld (4+a.length) b.length (by simp; omega)
 have e:∀ four:List Value,four.length=4->((four++(a++b++c)).drop (4+a.length)).take b.length=b:=fun four h4=>by
  have:four++(a++b++c)=(four++a)++(b++c):=by simp
  rw [this,List.drop_left' (by simp [h4]),List.take_left]
 rw [e _ rfl,Nat.zero_add] at this
 exact this
end
structure Cl (X H:KH) (p:Nat) (σ:RdS) (l:List Rg) (pl:Int) (ai:OA) (ci:Nat) (ao:OA) (co:Nat) (csI exo:List Value) (ar:OA) (cr:Nat):Prop where
 co:Co X H p σ [.bool true,.slice ar l.length cr,.int .i64 pl] ai ci ao co csI exo
 row:Gr H 2 ar l.length cr (rgC l) []
 xr:∀ b,blk ar=some b->X b=none/\b≠p/\blk ai≠some b/\blk ao≠some b
def ClX (X H:KH) (p:Nat) (σ:RdS) (l:List Rg) (pl:Int):Prop:=∃ ai ci ao co csI exo ar cr,Cl X H p σ l pl ai ci ao co csI exo ar cr
abbrev shut:List Value:=[.bool false,.slice none 0 0,.int .i64 0]
def Fu (X H:KH) (p:Nat) (σ:RdS):Prop:=match σ.cls with
 | none=>CoX X H p σ shut
 | some (l,pl)=>ClX X H p σ l pl
abbrev RT2:TI:=⟨2,2,true,3,0,0,[(0,1),(1,1)],[.int .u8 0,.int .u8 0]⟩
section
variable {X H : KH} {p : Nat} {σ : RdS} {l : List Rg} {pl : Int} {ai : OA} {ci : Nat} {ao : OA} {co : Nat} {csI exo : List Value} {ar : OA} {cr : Nat}
theorem Cl.k0 (h:Cl X H p σ l pl ai ci ao co csI exo ar cr):ld H ⟨p,4,none⟩ [.bool true]:=Co.k (a:=[]) (b:=[.bool true]) (c:=[.slice ar l.length cr,.int .i64 pl]) h.co
theorem Cl.k1 (h:Cl X H p σ l pl ai ci ao co csI exo ar cr):ld H ⟨p,5,none⟩ [.slice ar l.length cr]:=Co.k (a:=[.bool true]) (b:=[.slice ar l.length cr]) (c:=[.int .i64 pl]) h.co
theorem Cl.k2 (h:Cl X H p σ l pl ai ci ao co csI exo ar cr):ld H ⟨p,6,none⟩ [.int .i64 pl]:=Co.k (a:=[.bool true,.slice ar l.length cr]) (b:=[.int .i64 pl]) (c:=[]) h.co
theorem Cl.place (h:Cl X H p σ l pl ai ci ao co csI exo ar cr) (n:Int):Cl X (H.put ⟨p,6,none⟩ [.int .i64 n]) p σ l n ai ci ao co csI exo ar cr where
 co:=Co.setK (a:=[.bool true,.slice ar l.length cr]) (b:=[.int .i64 pl]) (c:=[]) (vs:=[.int .i64 n]) h.co rfl rfl
 row:=h.row.agree fun k e hk q=>put_ne (h.xr k hk).2.1 q
 xr:=h.xr
theorem Cl.known (h:Cl X H p σ l pl ai ci ao co csI exo ar cr):∃ X1:KH,Le X X1/\Co X1 H p σ [.bool true,.slice ar l.length cr,.int .i64 pl] ai ci ao co csI exo/\kold X1 2 ar l.length=some (rgC l):=by
 refine ⟨fun k=>if blk ar=some k then H k else X k,fun k e q=>?_,?_,?_⟩
 .show (if _ then _ else _)=_
  rw [if_neg (fun x=>by rw [(h.xr k x).1] at q; cases q)]
  exact q
 .refine ⟨h.co.pt.agree (fun k e q=>?_) ?_ fun e q=>q,fun b q=>⟨?_,(h.co.xi b q).2⟩,fun b q=>⟨?_,(h.co.xo b q).2⟩,h.co.items,h.co.itc.mono (fun k e q=>?_),h.co.outer,h.co.small⟩
  .have q:(if blk ar=some k then H k else X k)=some e:=q
   split at q
   .exact q
   .exact h.co.pt.le k e q
  .show (if _ then _ else _)=_
   rw [if_neg (fun x=>(h.xr p x).2.1 rfl)]
   exact h.co.pt.xp
  .show (if _ then _ else _)=_
   rw [if_neg (fun x=>(h.xr b x).2.2.1 q)]
   exact (h.co.xi b q).1
  .show (if _ then _ else _)=_
   rw [if_neg (fun x=>(h.xr b x).2.2.2 q)]
   exact (h.co.xo b q).1
  .show (if _ then _ else _)=_
   rw [if_neg (fun x=>by rw [(h.xr k x).1] at q; cases q)]
   exact q
 .refine Gr.row (cs:=rgC l) (ex:=[]) (c:=cr) (h.row.agree fun k e hk q=>?_)
  show (if _ then _ else _)=_
  rw [if_pos hk]
  exact q
theorem Cl.more (h:Cl X H p σ l pl ai ci ao co csI exo ar cr) (hs:l.length<=1000) {c:Int} {nm:Nat} (hnm:H nm=none) :
 ∃ a' H',kappend H nm RT2 ar l.length cr 1 [.int .u8 c,.int .u8 c]=some (.slice a' (l.length+1) unkU,H')/\ld H' ⟨p,5,none⟩ [.slice ar l.length cr]/\KH.may H' p/\
  Cl X (H'.put ⟨p,5,none⟩ [.slice a' (l.length+1) unkU]) p σ (l++[(c,c)]) pl ai ci ao co csI exo a' unkU:=by
 obtain ⟨a',H',ex',g1,g2,g3,g4,g5⟩:=Gr.append (ti:=RT2) (new:=[.int .u8 c,.int .u8 c]) h.row hnm rfl (by omega) (by decide) (by decide)
 have g3:=g3 rfl
 subst g3
 have hc:Co X H' p σ [.bool true,.slice ar l.length cr,.int .i64 pl] ai ci ao co csI exo:=h.co.agree fun k e q hk=>g4 k e q fun x=>by
  obtain ⟨x1,x2,x3,x4⟩:=h.xr k x
  rcases hk with hk | hk | hk | hk
  .rw [x1] at hk; cases hk
  .exact x2 hk
  .exact x3 hk
  .exact x4 hk
 have hxr:∀ b,blk a'=some b->X b=none/\b≠p/\blk ai≠some b/\blk ao≠some b:=fun b q=>by
  rcases g5 b q with q | q
  .exact h.xr b q
  .subst q
   refine ⟨h.co.pt.le.none hnm,fun x=>?_,fun x=>?_,fun x=>?_⟩
   .obtain ⟨e,h1,_⟩:=h.co.pt.ex
    rw [<- x,hnm] at h1; cases h1
   .obtain ⟨e1,h1⟩:=h.co.items.at x
    rw [hnm] at h1; cases h1
   .obtain ⟨e1,h1⟩:=h.co.outer.at x
    rw [hnm] at h1; cases h1
 refine ⟨a',H',g1,Co.k (a:=[.bool true]) (b:=[.slice ar l.length cr]) (c:=[.int .i64 pl]) hc,hc.pt.may,?_,?_,hxr⟩
 .have:=Co.setK (a:=[.bool true]) (b:=[.slice ar l.length cr]) (c:=[.int .i64 pl]) (vs:=[.slice a' (l.length+1) unkU]) (o:=5) hc rfl rfl
  simpa using this
 .have:=g2.agree (H':=H'.put ⟨p,5,none⟩ [.slice a' (l.length+1) unkU]) fun k e hk q=>put_ne (hxr k hk).2.1 q
  have e1:rgC (l++[(c,c)])=rgC l++[.int .u8 c,.int .u8 c]:=by rw [rgC_app]; rfl
  simpa [e1] using this
theorem Cl.last (h:Cl X H p σ l pl ai ci ao co csI exo ar cr) {m:List Rg} {r:Rg} (hl:l=m++[r]) (c:Int) :
 ∃ b,ar=some ⟨b,0,none⟩/\ld H ⟨b,0+m.length*2,none⟩ [.int .u8 r.1]/\ld H ⟨b,0+m.length*2+1,none⟩ [.int .u8 r.2]/\KH.may H b/\
  Cl X (H.put ⟨b,0+m.length*2+1,none⟩ [.int .u8 c]) p σ (m++[(r.1,c)]) pl ai ci ao co csI exo ar cr:=by
 have hn:l.length=m.length+1:=by rw [hl]; simp
 have hg:rgC l=rgC m++[.int .u8 r.1,.int .u8 r.2]:=by rw [hl,rgC_app]; rfl
 have hrow:=h.row
 have hxr:=h.xr
 have hco:=h.co
 generalize hN:l.length=N at *
 generalize hC:rgC l=C at *
 cases hrow with
 | nil=>omega
 | on b _ e _ _ h1 h2 h3 h4 h5 h6 =>
   have hml:=rgC_len m
   have hbx:=hxr b rfl
   have hC2:C.length=m.length*2+2:=by rw [hg]; simp [hml]
   have hall:ld H ⟨b,0,none⟩ C:=⟨rfl,e,h1,by simpa using h4⟩
   have e1:(m++[(r.1,c)]).length=N:=by simp; omega
   refine ⟨b,rfl,?_,?_,⟨e,h1,h5⟩,?_,?_,hxr⟩
   .have:=ldSub hall (m.length*2) 1 (by omega)
    rw [hg,<- hml,List.drop_left] at this
    rw [<- hml]
    simpa using this
   .have:=ldSub hall (m.length*2+1) 1 (by omega)
    rw [hg,<- hml,<- List.drop_drop,List.drop_left] at this
    rw [<- hml,Nat.add_assoc]
    simpa using this
   .rw [e1]
    exact hco.agree fun k e' q hk=>put_ne (fun x=>by
     subst x
     rcases hk with hk | hk | hk | hk
     .rw [hbx.1] at hk; cases hk
     .exact hbx.2.1 hk
     .exact hbx.2.2.1 hk
     .exact hbx.2.2.2 hk) q
   .rw [e1]
    have e2:rgC (m++[(r.1,c)])=rgC m++[.int .u8 r.1]++[.int .u8 c]++[]:=by rw [rgC_app]; simp [rgC]
    have h4':rd e.cells 0 (C++[]).length=some ((rgC m++[.int .u8 r.1])++[.int .u8 r.2]++[]):=by
     rw [h4,hg]; simp
    have h7:=rdWr (o:=0+m.length*2+1) (vs:=[.int .u8 c]) h4' (by simp [hml]) rfl
    refine .on b _ ⟨wr e.cells (0+m.length*2+1) [.int .u8 c],e.len,e.unk,none⟩ _ _ (by simp only [KH.put,if_true,h1,Option.map_some]) h2 ?_ ?_ (wrB_keep h5) (by rw [e2]; simp [hml]; omega)
    .rw [e2]; simp only [List.append_nil] at h3 ⊢; rw [h3,hC2]; simp [hml]
    .have hlen:(rgC (m++[(r.1,c)])++[]).length=(C++[]).length:=by rw [e2]; simp [hC2,hml]
     rw [hlen,e2]
     simpa using h7
end
end Go.Ew
namespace Go.Proofs.YtfhjkkbaghanhaaGreat
open Go.Ev Go.Ew
namespace Va
section
variable (ok : EnvOk (env Tryz.prog))
include ok
theorem c108 {X H:KH} {p:Nat} {σ:RdS} {l:List Rg} {pl:Int} {Q:PQ} (h:ClX X H p σ l pl) (hq:Q (.bool (wholeC l pl)) H):Does (env Tryz.prog) 108 [.pointer (some ⟨p,4,none⟩)] H Q:=by
 obtain ⟨ai,ci,ao,co,csI,exo,ar,cr,h⟩:=h
 refine fn108 ok ⟨rfl,ar,_,cr,h.k1,fun h1=>⟨rfl,_,h.k2,?_⟩,fun h1=>?_⟩
 .have h1:0<l.length:=by have:=of_decide_eq_true h1; omega
  have:wholeC l pl=decide (pl≠2):=by unfold wholeC; rw [decide_eq_true h1,Bool.true_and]
  rw [this] at hq
  exact hq
 .have h1:¬ 0<l.length:=by have:=of_decide_eq_false h1; omega
  have:wholeC l pl=false:=by unfold wholeC; rw [decide_eq_false h1,Bool.false_and]
  rw [this] at hq
  exact hq
theorem c97 {X H:KH} {p:Nat} {σ:RdS} {l:List Rg} {pl:Int} {Q:PQ} (h:ClX X H p σ l pl) (hn:pl≠1->Q (.bool false) H) (hq:pl=1->∀ H',ClX X H' p σ l 2->Q (.bool true) H'):Does (env Tryz.prog) 97 [.pointer (some ⟨p,4,none⟩)] H Q:=by
 obtain ⟨ai,ci,ao,co,csI,exo,ar,cr,h⟩:=h
 refine fn97 ok ⟨rfl,_,h.k2,fun h1=>hn (by simpa using h1),fun h1=>⟨rfl,stOk h.k2 rfl,h.co.pt.may,hq (by simpa using h1) _ ⟨_,_,_,_,_,_,_,_,h.place 2⟩⟩⟩
theorem c96 {X H:KH} {p:Nat} {σ:RdS} {l:List Rg} {pl c:Int} {Q:PQ} (h:ClX X H p σ l pl) (hs:l.length<=1000) (hpl:pl=2->l≠[]) (hn:addC l pl c=none->Q (.bool false) H) (hq:∀ m pl',addC l pl c=some (m,pl')->∀ H',ClX X H' p σ m pl'->Q (.bool true) H'):Does (env Tryz.prog) 96 [.pointer (some ⟨p,4,none⟩),.int .u8 c] H Q:=by
 obtain ⟨ai,ci,ao,co,csI,exo,ar,cr,h⟩:=h
 refine fn96 ok ⟨rfl,_,h.k2,fun h1=>⟨rfl,ar,_,cr,h.k1,fun n5 hn5 n6 hn6=>?_⟩,fun h1=>?_⟩
 .have h1:pl≠2:=by simpa using h1
  have h2:Cl X (H.new n5 (mkEnt [.int .u8 c,.int .u8 c] 0)) p σ l pl ai ci ao co csI exo ar cr:=⟨h.co.sub (Le.new hn5),h.row.agree fun k e _ q=>Le.new hn5 _ _ q,h.xr⟩
  obtain ⟨a',H',g1,g2,g3,g4⟩:=h2.more hs (c:=c) hn6
  refine ⟨1,_,knew_of (lit_kold (if_pos rfl) rfl),a',_,_,H',g1,rfl,stOk g2 rfl,g3,rfl,stOk g4.k2 rfl,g4.co.pt.may,hq _ _ (if_pos h1) _ ?_⟩
  have:=g4.place 1
  exact ⟨_,_,_,_,_,_,_,_,this⟩
 .have h1:pl=2:=by simpa using h1
  obtain ⟨m,r,hl⟩:∃ m r,l=m++[r]:=⟨l.dropLast,l.getLast (hpl h1),(List.dropLast_concat_getLast _).symm⟩
  have hn1:l.length=m.length+1:=by rw [hl]; simp
  have hlast:l.getLast? = some r:=by rw [hl]; simp
  have hdrop:l.dropLast=m:=by rw [hl]; simp
  have hw:IntKind.wrap .i64 (((l.length:Nat):Int)-1)=((m.length:Nat):Int):=by rw [wrap64 (by omega) (by omega)]; omega
  obtain ⟨b,rfl,g1,g2,g3,g4⟩:=h.last hl c
  have e0:Int.toNat ((m.length:Nat):Int)=m.length:=by omega
  refine ⟨rfl,_,_,_,h.k1,?_⟩
  rw [hw,e0]
  refine ⟨rfl,_,_,_,h.k1,⟨by omega,by omega⟩,b,0,rfl,rfl,_,by simpa using g1,fun h2=>?_,fun h2=>?_⟩
  .have h2:=of_decide_eq_true h2
   exact hn (by unfold addC; rw [if_neg (by simpa using h1),hlast]; simp only [if_pos h2])
  .have h2:=of_decide_eq_false h2
   refine ⟨rfl,_,_,_,h.k1,⟨by omega,by omega⟩,b,0,rfl,rfl,?_⟩
   refine ⟨stOk g2 rfl,g3,rfl,stOk g4.k2 rfl,g4.co.pt.may,hq _ _ ?_ _ ⟨_,_,_,_,_,_,_,_,g4.place 0⟩⟩
   unfold addC
   rw [if_neg (by simpa using h1),hlast]
   simp only [if_neg h2,hdrop]
theorem c103 {X H:KH} {p:Nat} {σ:RdS} {Q:PQ} (h:CoX X H p σ shut) (hn:openC σ=none->Q (.bool false) H) (hq:∀ τ,openC σ=some τ->∀ H',Fu X H' p τ->Q (.bool true) H'):Does (env Tryz.prog) 103 [.pointer (some ⟨p,0,none⟩)] H Q:=by
 refine fn103 ok (c110 ok h ⟨_,rfl,fun h1=>?_,fun h1=>?_⟩)
 .exact hn (if_neg (by simpa using h1))
 .have h1:σ.outer.length<12:=by simpa using h1
  obtain ⟨ai,ci,ao,co,csI,exo,h⟩:=h
  have hk:ld H ⟨p,4,none⟩ shut:=Co.k (a:=[]) (b:=shut) (c:=[]) h
  refine ⟨rfl,stOk hk rfl,h.pt.may,hq _ (if_pos h1) _ ?_⟩
  have h2:=Co.setK (a:=[]) (b:=shut) (c:=[]) (vs:=[.bool true,.slice none 0 0,.int .i64 0]) (o:=4) h rfl rfl
  have h2:Co X (H.put ⟨p,4,none⟩ [.bool true,.slice none 0 0,.int .i64 0]) p { σ with cls:=some ([],0) } [.bool true,.slice none 0 0,.int .i64 0] ai ci ao co csI exo:=⟨h2.pt,h2.xi,h2.xo,h2.items,h2.itc,h2.outer,h2.small⟩
  exact ⟨ai,ci,ao,co,csI,exo,none,0,h2,.nil,fun b q=>by cases q⟩
theorem c98 {X H:KH} {p:Nat} {σ:RdS} {l:List Rg} {pl:Int} {Q:PQ} (h:ClX X H p σ l pl) (hs:σ.items.length<=900) (hn:wholeC l pl=false->Q (.bool false) H) (hq:wholeC l pl=true->∀ X' H',Le X X'->CoX X' H' p (addClassR σ l) shut->Q (.bool true) H'):Does (env Tryz.prog) 98 [.pointer (some ⟨p,0,none⟩)] H Q:=by
 have h0:=h
 obtain ⟨ai,ci,ao,co,csI,exo,ar,cr,h⟩:=h
 refine fn98 ok ⟨rfl,c108 ok h0 ⟨_,rfl,fun h1=>hn (by simpa using h1),fun h1=>?_⟩⟩
 have h1:wholeC l pl=true:=by simpa using h1
 obtain ⟨X1,hle,hc,hk⟩:=h.known
 refine ⟨rfl,rfl,ar,_,cr,h.k1,c88 ok ⟨_,_,_,_,_,_,hc⟩ hs hk fun H5 hd=>?_⟩
 obtain ⟨ai,ci,ao,co,csI,exo,hd⟩:=hd
 have hkk:ld H5 ⟨p,4,none⟩ [.bool true,.slice ar l.length cr,.int .i64 pl]:=Co.k (a:=[]) (b:=[.bool true,.slice ar l.length cr,.int .i64 pl]) (c:=[]) hd
 have h2:=Co.setK (a:=[]) (b:=[.bool true,.slice ar l.length cr,.int .i64 pl]) (c:=[]) (vs:=shut) (o:=4) hd rfl rfl
 exact ⟨rfl,rfl,stOk hkk rfl,hd.pt.may,hq h1 X1 _ hle ⟨_,_,_,_,_,_,h2⟩⟩
end
end Va
end Go.Proofs.YtfhjkkbaghanhaaGreat
namespace Go.Ew
open Go.Ev Go.Deep
theorem does_idx {E:Env} {g:Nat} {x:ByteArray} {c:Int} {H:KH} {Q:PQ} (h0:Nat.blt g unkU=true) (h1:(tget E.ff g).isNone=true) (h2:tget E.xx g=some 3) (hq:Q (.int .i64 (idxB x c)) H):Does E g [.string x,.int .u8 c] H Q:=by
 have h1:tget E.ff g=none:=by
  cases h:tget E.ff g with
  | none=>rfl
  | some f=>rw [h] at h1; cases h1
 refine ⟨blt_lt h0,fun h wf know=>⟨_,h,H,⟨0,fun m _=>?_⟩,hq,wf,know,Nat.le_refl _,fun _ _ _=>rfl,fun k q=>.inl q⟩⟩
 simp only [callA,h0,cond_true,h1,xext,h2]
def marksS:ByteArray:=ByteArray.mk #[40,41,91,93,124,42,43,63,46,92]
def clsS:ByteArray:=ByteArray.mk #[93,45,92]
theorem marks_all:∀ n:Nat,n<256->decide (0<=idxB marksS (n:Int))=decide ((n:Int)∈marksB):=by decide +kernel
theorem cls_all:∀ n:Nat,n<256->decide (0<=idxB clsS (n:Int))=decide ((n:Int)∈clsB):=by decide +kernel
theorem marks_in {c:Int} (h:0<=c/\c<256):decide (0<=idxB marksS c)=decide (c∈marksB):=by
 have:=marks_all c.toNat (by omega)
 rwa [Int.toNat_of_nonneg h.1] at this
theorem cls_in {c:Int} (h:0<=c/\c<256):decide (0<=idxB clsS c)=decide (c∈clsB):=by
 have:=cls_all c.toNat (by omega)
 rwa [Int.toNat_of_nonneg h.1] at this
def Wf (n:Nat) (σ:RdS):Prop:=σ.items.length<=3*n/\∀ l pl,σ.cls=some (l,pl)->l.length<=n/\(pl≠0->l≠[])
theorem join_cls (σ:RdS):(joinR σ).cls=σ.cls:=by unfold joinR putR; split<;>rfl
theorem end_cls {σ τ:RdS} (h:endR σ=some τ):τ.cls=σ.cls:=by
 unfold endR at h
 split at h
 .cases h
 .cases h
  show (if (joinR σ).parted=true then putR (joinR σ) 3 else joinR σ).cls=_
  split
  .exact join_cls σ
  .exact join_cls σ
theorem wf_none {n m:Nat} {σ:RdS} (h1:σ.items.length<=3*m) (h2:σ.cls=none):Wf m σ:=⟨h1,fun l pl q=>by rw [h2] at q; cases q⟩
theorem add_len (σ:RdS) (l:List Rg):(addClassR σ l).items.length<=σ.items.length+2:=by
 have:=join_len σ
 simp only [addClassR,List.length_append,List.length_cons,List.length_nil]
 omega
theorem add_cls (σ:RdS) (l:List Rg):(addClassR σ l).cls=σ.cls:=join_cls σ
theorem mark_wf {n:Nat} {σ τ:RdS} {c:Int} (h:σ.items.length<=3*n) (hc:σ.cls=none) (ht:markR σ c=some τ):Wf (n+1) τ:=by
 have hj:=join_len σ
 unfold markR at ht
 split at ht
 .unfold openR at ht
  split at ht
  .cases ht
   refine wf_none (n:=n) ?_ ?_
   .show (joinR σ).items.length<=_; omega
   .show (joinR σ).cls=_; rw [join_cls,hc]
  .cases ht
 split at ht
 .unfold closeR at ht
  split at ht
  .cases ht
  .split at ht
   .cases ht
   .rename_i τ' he
    cases ht
    have:=end_len he
    refine wf_none (n:=n) ?_ ?_
    .show τ'.items.length<=_; omega
    .show τ'.cls=_; rw [end_cls he,hc]
 split at ht
 .unfold openC at ht
  split at ht
  .cases ht
   refine ⟨by show σ.items.length<=_; omega,fun l pl q=>?_⟩
   cases q
   exact ⟨by simp,fun q=>absurd rfl q⟩
  .cases ht
 split at ht
 .cases ht
  have:=add_len σ [(32,126)]
  exact wf_none (n:=n) (by omega) (by rw [add_cls,hc])
 split at ht
 .have:=end_len ht
  exact wf_none (n:=n) (by omega) (by rw [end_cls ht,hc])
 have rep:∀ op,repeatR σ op=some τ->Wf (n+1) τ:=fun op ht=>by
  unfold repeatR at ht
  split at ht
  .cases ht
  .cases ht
   exact wf_none (n:=n) (by simp [putR]; omega) hc
 split at ht
 .exact rep _ ht
 split at ht
 .exact rep _ ht
 split at ht
 .exact rep _ ht
 .cases ht
theorem addC_wf {n:Nat} {l m:List Rg} {pl pl' c:Int} (hl:l.length<=n) (h:addC l pl c=some (m,pl')):m.length<=n+1/\(pl'≠0->m≠[]):=by
 unfold addC at h
 split at h
 .cases h
  exact ⟨by simp; omega,fun _=>by simp⟩
 .split at h
  .cases h
  .split at h
   .cases h
   .cases h
    exact ⟨by simp; omega,fun q=>absurd rfl q⟩
theorem take_wf {n:Nat} {σ τ:RdS} {c:Int} {esc:Bool} (h:Wf n σ) (ht:takeR σ c esc=some τ):Wf (n+1) τ:=by
 obtain ⟨h1,h2⟩:=h
 unfold takeR at ht
 split at ht
 .rename_i l pl hc
  obtain ⟨g1,g2⟩:=h2 l pl hc
  unfold inClassR at ht
  split at ht
  .split at ht
   .rename_i x hx
    cases ht
    refine ⟨by show σ.items.length<=_; omega,fun m pl' q=>?_⟩
    have q:x=(m,pl'):=Option.some.inj q
    subst q
    exact addC_wf g1 hx
   .cases ht
  .split at ht
   .split at ht
    .rename_i hp
     cases ht
     refine ⟨by show σ.items.length<=_; omega,fun m pl' q=>?_⟩
     have q:(l,(2:Int))=(m,pl'):=Option.some.inj q
     cases q
     exact ⟨by omega,fun _=>g2 (by omega)⟩
    .cases ht
   .split at ht
    .split at ht
     .cases ht
      have:=add_len σ l
      refine wf_none (n:=n) ?_ rfl
      show (addClassR σ l).items.length<=_
      omega
     .cases ht
    .cases ht
 .rename_i hc
  split at ht
  .cases ht
   have:=add_len σ [(c,c)]
   exact wf_none (n:=n) (by omega) (by rw [add_cls,hc])
  .exact mark_wf h1 hc ht
theorem Fu.le {X H:KH} {p:Nat} {σ:RdS} (h:Fu X H p σ):Le X H:=by
 unfold Fu at h
 split at h
 .obtain ⟨_,_,_,_,_,_,h⟩:=h; exact h.pt.le
 .obtain ⟨_,_,_,_,_,_,_,_,h⟩:=h; exact h.co.pt.le
theorem CoX.le {X H:KH} {p:Nat} {σ:RdS} {kc:List Value} (h:CoX X H p σ kc):Le X H:=by
 obtain ⟨_,_,_,_,_,_,h⟩:=h; exact h.pt.le
theorem ClX.le {X H:KH} {p:Nat} {σ:RdS} {l:List Rg} {pl:Int} (h:ClX X H p σ l pl):Le X H:=by
 obtain ⟨_,_,_,_,_,_,_,_,h⟩:=h; exact h.co.pt.le
theorem Fu.of_none {X H:KH} {p:Nat} {σ:RdS} (hc:σ.cls=none) (h:CoX X H p σ shut):Fu X H p σ:=by
 unfold Fu; rw [hc]; exact h
theorem Fu.none {X H:KH} {p:Nat} {σ:RdS} (h:Fu X H p σ) (hc:σ.cls=Option.none):CoX X H p σ shut:=by
 unfold Fu at h; rw [hc] at h; exact h
theorem Fu.some {X H:KH} {p:Nat} {σ:RdS} {l:List Rg} {pl:Int} (h:Fu X H p σ) (hc:σ.cls=Option.some (l,pl)):ClX X H p σ l pl:=by
 unfold Fu at h; rw [hc] at h; exact h
theorem CoX.cls {X H:KH} {p:Nat} {σ:RdS} {kc:List Value} (h:CoX X H p σ kc) (x:Option (List Rg × Int)):CoX X H p { σ with cls:=x } kc:=by
 obtain ⟨ai,ci,ao,co,csI,exo,h⟩:=h
 exact ⟨ai,ci,ao,co,csI,exo,h.pt,h.xi,h.xo,h.items,h.itc,h.outer,h.small⟩
theorem ClX.cls {X H:KH} {p:Nat} {σ:RdS} {l:List Rg} {pl:Int} (h:ClX X H p σ l pl):Fu X H p { σ with cls:=some (l,pl) }:=by
 obtain ⟨ai,ci,ao,co,csI,exo,ar,cr,h⟩:=h
 exact ⟨ai,ci,ao,co,csI,exo,ar,cr,⟨h.co.pt,h.co.xi,h.co.xo,h.co.items,h.co.itc,h.co.outer,h.co.small⟩,h.row,h.xr⟩
end Go.Ew
namespace Go.Proofs.YtfhjkkbaghanhaaGreat
open Go.Ev Go.Ew
namespace Va
section
variable (ok : EnvOk (env Tryz.prog))
include ok
theorem c99 {s:ByteArray} {c:Int} {H:KH} {Q:PQ} (hq:Q (.int .i64 (idxB s c)) H):Does (env Tryz.prog) 99 [.string s,.int .u8 c] H Q :=
 fn99 ok (fn109 ok (does_idx (by kernel_rfl) (by kernel_rfl) (by kernel_rfl) ⟨_,rfl,_,rfl,hq⟩))
theorem c87 {s:ByteArray} {L:List Int} {c:Int} {esc:Bool} {H:KH} {Q:PQ} (hL:decide (0<=idxB s c)=decide (c∈L)) (hq:Q (.bool (standsB c esc L)) H):Does (env Tryz.prog) 87 [.agg #[.int .u8 c,.bool esc],.string s] H Q:=by
 refine fn87 ok (c99 ok ⟨_,rfl,fun h1=>⟨fun h2=>?_,fun h2=>?_⟩,fun h1=>?_⟩)
 .rw [hL]; unfold standsB at hq; rw [h1,h2,Bool.true_and,Bool.true_and] at hq; exact hq
 .unfold standsB at hq; rw [h2,Bool.false_and,Bool.and_false] at hq; exact hq
 .unfold standsB at hq; rw [h1,Bool.false_and] at hq; exact hq
theorem c89 {X H:KH} {p:Nat} {σ:RdS} {c:Int} {Q:PQ} (h:CoX X H p σ shut) (hcl:σ.cls=none) (hs:σ.items.length<=900) (hn:markR σ c=none->∀ H',Le X H'->Q (.bool false) H') (hq:∀ τ,markR σ c=some τ->∀ X' H',Le X X'->Fu X' H' p τ->Q (.bool true) H'):Does (env Tryz.prog) 89 [.pointer (some ⟨p,0,none⟩),.int .u8 c] H Q:=by
 have hle:=h.le
 unfold markR at hn hq
 refine fn89 ok ⟨fun h1=>?_,fun h1=>⟨fun h2=>?_,fun h2=>⟨fun h3=>?_,fun h3=>⟨fun h4=>?_,fun h4=>⟨fun h5=>?_,fun h5=>⟨fun h6=>?_,fun h6=>⟨fun h7=>?_,fun h7=>⟨fun h8=>?_,fun h8=>?_⟩⟩⟩⟩⟩⟩⟩⟩
 .rw [if_pos (by simpa using h1)] at hn hq
  exact c101 ok h hs (fun e=>⟨_,rfl,hn e _ hle⟩) fun τ e H' hc=>⟨_,rfl,hq τ e X H' (Le.refl _) (Fu.of_none (by unfold openR at e; split at e<;>cases e; show (joinR σ).cls=_; rw [join_cls,hcl]) hc)⟩
 .rw [if_neg (by simpa using h1),if_pos (by simpa using h2)] at hn hq
  refine c102 ok h hs (fun e=>⟨_,rfl,hn e _ hle⟩) fun τ e H' hc=>⟨_,rfl,hq τ e X H' (Le.refl _) (Fu.of_none ?_ hc)⟩
  unfold closeR at e
  split at e
  .cases e
  .split at e
   .cases e
   .rename_i he
    cases e
    show RdS.cls _=_
    rw [end_cls he,hcl]
 .rw [if_neg (by simpa using h1),if_neg (by simpa using h2),if_pos (by simpa using h3)] at hn hq
  exact c103 ok h (fun e=>⟨_,rfl,hn e _ hle⟩) fun τ e H' hc=>⟨_,rfl,hq τ e X H' (Le.refl _) hc⟩
 .rw [if_neg (by simpa using h1),if_neg (by simpa using h2),if_neg (by simpa using h3),if_pos (by simpa using h4)] at hn hq
  intro n10 hn10
  obtain ⟨ai,ci,ao,co,csI,exo,h⟩:=h
  have h9:=h.lit (e:=mkEnt [.int .u8 32,.int .u8 126] 0) hn10
  exact c88 ok (l:=[(32,126)]) ⟨_,_,_,_,_,_,h9⟩ hs (lit_kold (if_pos rfl) rfl) fun H' hc=>⟨rfl,hq _ rfl _ H' (Le.new (hle.none hn10)) (Fu.of_none (by rw [add_cls,hcl]) hc)⟩
 .rw [if_neg (by simpa using h1),if_neg (by simpa using h2),if_neg (by simpa using h3),if_neg (by simpa using h4),if_pos (by simpa using h5)] at hn hq
  exact c90 ok h hs (fun e=>⟨_,rfl,hn e _ hle⟩) fun τ e H' hc=>⟨_,rfl,hq τ e X H' (Le.refl _) (Fu.of_none (by rw [end_cls e,hcl]) hc)⟩
 .rw [if_neg (by simpa using h1),if_neg (by simpa using h2),if_neg (by simpa using h3),if_neg (by simpa using h4),if_neg (by simpa using h5),if_pos (by simpa using h6)] at hn hq
  exact c104 ok h (by omega) (fun e H' hc=>⟨_,rfl,hn e _ hc.le⟩) fun τ e H' hc=>⟨_,rfl,hq τ e X H' (Le.refl _) (Fu.of_none (by unfold repeatR at e; split at e<;>cases e; exact hcl) hc)⟩
 .rw [if_neg (by simpa using h1),if_neg (by simpa using h2),if_neg (by simpa using h3),if_neg (by simpa using h4),if_neg (by simpa using h5),if_neg (by simpa using h6),if_pos (by simpa using h7)] at hn hq
  exact c104 ok h (by omega) (fun e H' hc=>⟨_,rfl,hn e _ hc.le⟩) fun τ e H' hc=>⟨_,rfl,hq τ e X H' (Le.refl _) (Fu.of_none (by unfold repeatR at e; split at e<;>cases e; exact hcl) hc)⟩
 .rw [if_neg (by simpa using h1),if_neg (by simpa using h2),if_neg (by simpa using h3),if_neg (by simpa using h4),if_neg (by simpa using h5),if_neg (by simpa using h6),if_neg (by simpa using h7),if_pos (by simpa using h8)] at hn hq
  exact c104 ok h (by omega) (fun e H' hc=>⟨_,rfl,hn e _ hc.le⟩) fun τ e H' hc=>⟨_,rfl,hq τ e X H' (Le.refl _) (Fu.of_none (by unfold repeatR at e; split at e<;>cases e; exact hcl) hc)⟩
 .rw [if_neg (by simpa using h1),if_neg (by simpa using h2),if_neg (by simpa using h3),if_neg (by simpa using h4),if_neg (by simpa using h5),if_neg (by simpa using h6),if_neg (by simpa using h7),if_neg (by simpa using h8)] at hn
  exact hn rfl _ hle
theorem c86 {X H:KH} {p:Nat} {σ:RdS} {l:List Rg} {pl c:Int} {esc:Bool} {Q:PQ} (h:ClX X H p σ l pl) (hs:σ.items.length<=900) (hl:l.length<=900) (hpl:pl≠0->l≠[]) (hc:0<=c/\c<256) (hn:inClassR σ l pl c esc=none->∀ H',Le X H'->Q (.bool false) H') (hq:∀ τ,inClassR σ l pl c esc=some τ->∀ X' H',Le X X'->Fu X' H' p τ->Q (.bool true) H'):Does (env Tryz.prog) 86 [.pointer (some ⟨p,0,none⟩),.agg #[.int .u8 c,.bool esc]] H Q:=by
 have hle:=h.le
 unfold inClassR at hn hq
 refine fn86 ok (c87 ok (s:=clsS) (cls_in hc) ⟨_,rfl,fun h1=>?_,fun h1=>⟨fun h2=>?_,fun h2=>⟨fun h3=>?_,fun h3=>?_⟩⟩⟩)
 .rw [if_pos h1] at hn hq
  refine ⟨trivial,rfl,c96 ok h (by omega) (fun e=>hpl (by omega)) (fun e=>⟨_,rfl,trivial,hn (by rw [e]) _ hle⟩) fun m pl' e H' hd=>⟨_,rfl,trivial,hq _ (by rw [e]) X H' (Le.refl _) hd.cls⟩⟩
 .rw [if_neg (by rw [h1]; decide),if_pos (by simpa using h2)] at hn hq
  exact ⟨rfl,c97 ok h (fun e=>⟨_,rfl,hn (if_neg e) _ hle⟩) fun e H' hd=>⟨_,rfl,hq _ (if_pos e) X H' (Le.refl _) hd.cls⟩⟩
 .rw [if_neg (by rw [h1]; decide),if_neg (by simpa using h2),if_pos (by simpa using h3)] at hn hq
  exact c98 ok h hs (fun e=>⟨_,rfl,hn (if_neg (by rw [e]; decide)) _ hle⟩) fun e X' H' hx hd=>⟨_,rfl,hq _ (if_pos e) X' H' hx (Fu.of_none rfl (hd.cls _))⟩
 .rw [if_neg (by rw [h1]; decide),if_neg (by simpa using h2),if_neg (by simpa using h3)] at hn
  exact hn rfl _ hle
theorem c71 {X H:KH} {p:Nat} {σ:RdS} {c:Int} {esc:Bool} {n:Nat} {Q:PQ} (h:Fu X H p σ) (hw:Wf n σ) (hn300:n<=300) (hc:0<=c/\c<256) (hn:takeR σ c esc=none->∀ H',Le X H'->Q (.bool false) H') (hq:∀ τ,takeR σ c esc=some τ->∀ X' H',Le X X'->Fu X' H' p τ->Q (.bool true) H'):Does (env Tryz.prog) 71 [.pointer (some ⟨p,0,none⟩),.agg #[.int .u8 c,.bool esc]] H Q:=by
 have hle:=h.le
 obtain ⟨w1,w2⟩:=hw
 unfold takeR at hn hq
 cases hcl:σ.cls with
 | some x =>
   obtain ⟨l,pl⟩:=x
   rw [hcl] at hn hq
   have h':=h.some hcl
   obtain ⟨g1,g2⟩:=w2 l pl hcl
   have hk0:ld H ⟨p,4,none⟩ [.bool true]:=by
    obtain ⟨ai,ci,ao,co,csI,exo,ar,cr,h1⟩:=h'
    exact h1.k0
   exact fn71 ok ⟨rfl,rfl,true,hk0,fun _=>c86 ok h' (by omega) (by omega) g2 hc (fun e H' hl=>⟨_,rfl,hn e H' hl⟩) fun τ e X' H' hl hf=>⟨_,rfl,hq τ e X' H' hl hf⟩,fun e=>by cases e⟩
 | none =>
   rw [hcl] at hn hq
   have h':=h.none hcl
   have hk0:ld H ⟨p,4,none⟩ [.bool false]:=by
    obtain ⟨ai,ci,ao,co,csI,exo,h1⟩:=h'
    exact Co.k (a:=[]) (b:=[.bool false]) (c:=[.slice none 0 0,.int .i64 0]) h1
   refine fn71 ok ⟨rfl,rfl,false,hk0,fun e=>(by cases e),fun _=>c87 ok (s:=marksS) (marks_in hc) ⟨_,rfl,fun h1 n4 hn4=>?_,fun h1=>?_⟩⟩
   .obtain ⟨ai,ci,ao,co,csI,exo,h2⟩:=h'
    have h9:=h2.lit (e:=mkEnt [.int .u8 c,.int .u8 c] 0) hn4
    exact c88 ok (l:=[(c,c)]) ⟨_,_,_,_,_,_,h9⟩ (by omega) (lit_kold (if_pos rfl) rfl) fun H' hd=>⟨rfl,hq _ (if_pos h1) _ H' (Le.new (hle.none hn4)) (Fu.of_none (by rw [add_cls,hcl]) hd)⟩
   .have e1:¬ standsB c esc marksB=true:=by rw [h1]; decide
    exact c89 ok h' hcl (by omega) (fun e H' hl=>⟨_,rfl,hn ((if_neg e1).trans e) H' hl⟩) fun τ e X' H' hl hf=>⟨_,rfl,hq τ ((if_neg e1).trans e) X' H' hl hf⟩
theorem c72 {X H:KH} {p:Nat} {σ:RdS} {Q:PQ} (h:Fu X H p σ) (hs:σ.items.length<=900) (hn:finR σ=none->Q (.bool false) H) (hq:∀ τ,finR σ=some τ->∀ H',CoX X H' p τ shut->Q (.bool true) H'):Does (env Tryz.prog) 72 [.pointer (some ⟨p,0,none⟩)] H Q:=by
 unfold finR at hn hq
 cases hcl:σ.cls with
 | some x =>
   obtain ⟨l,pl⟩:=x
   rw [hcl] at hn
   have h':=h.some hcl
   have hk0:ld H ⟨p,4,none⟩ [.bool true]:=by
    obtain ⟨ai,ci,ao,co,csI,exo,ar,cr,h1⟩:=h'
    exact h1.k0
   exact fn72 ok ⟨rfl,rfl,true,hk0,fun e=>(by cases e),fun _=>hn rfl⟩
 | none =>
   rw [hcl] at hn hq
   have h':=h.none hcl
   obtain ⟨ai,ci,ao,co,csI,exo,h1⟩:=h'
   have hk0:ld H ⟨p,4,none⟩ [.bool false]:=Co.k (a:=[]) (b:=[.bool false]) (c:=[.slice none 0 0,.int .i64 0]) h1
   refine fn72 ok ⟨rfl,rfl,false,hk0,fun _=>⟨rfl,_,_,_,h1.c1,fun e=>?_,fun e=>?_⟩,fun e=>by cases e⟩
   .have e:σ.outer.length=0:=by have:=of_decide_eq_true e; omega
    exact c90 ok ⟨_,_,_,_,_,_,h1⟩ hs (fun q=>⟨_,rfl,hn ((if_pos e).trans q)⟩) fun τ q H' hd=>⟨_,rfl,hq τ ((if_pos e).trans q) H' hd⟩
   .have e:¬ σ.outer.length=0:=by have:=of_decide_eq_false e; omega
    exact hn (if_neg e)
end
end Va
end Go.Proofs.YtfhjkkbaghanhaaGreat
namespace Go.Ew
open Go.Ev Go.Deep
def bytesI (s:ByteArray):List Int:=s.data.toList.map fun b=>(b.toNat:Int)
def letL:List Int->Bool->List (Int × Bool)
 | [],_=>[]
 | c :: r,esc=>if c=92/\esc=false/\r≠[] then letL r true else (c,esc) :: letL r false
def foldT:RdS->List (Int × Bool)->Option RdS
 | σ,[]=>some σ
 | σ,(c,e) :: r=>match takeR σ c e with
   | none=>none
   | some τ=>foldT τ r
def rd0:RdS:=⟨[],[],false,0,none⟩
def readR (s:ByteArray):Option (List It):=match foldT rd0 (letL (bytesI s) false) with
 | none=>none
 | some σ=>match finR σ with
   | none=>none
   | some τ=>some τ.items
def parseR (s:ByteArray):Option (List It):=if s.size<1\/24<s.size then none else readR s
theorem bytes_len (s:ByteArray):(bytesI s).length=s.size:=by
 unfold bytesI
 rw [List.length_map,Array.length_toList]
 rfl
theorem bytes_drop {s:ByteArray} {i:Nat} (h:i<s.size):(bytesI s).drop i=byteAt s i :: (bytesI s).drop (i+1):=by
 have hl:i<(bytesI s).length:=by rw [bytes_len]; exact h
 rw [List.drop_eq_getElem_cons hl]
 congr 1
 have:s.data.toList[i]? = some (s.data.toList[i]'(by simpa [bytesI] using hl)):=by simp
 simp only [byteAt,this,Option.getD_some,bytesI,List.getElem_map]
theorem byteAt_in (s:ByteArray) (i:Nat):0<=byteAt s i/\byteAt s i<256:=by
 unfold byteAt
 have:=((s.data.toList[i]?).getD 0).toNat_lt
 omega
theorem let_len:∀ (l:List Int) (b:Bool),(letL l b).length<=l.length
 | [],b=>by simp [letL]
 | c :: r,b=>by
   simp only [letL]
   split
   .have:=let_len r true; simp; omega
   .have:=let_len r false; simp; omega
def ItR (H:KH) (l:List It) (a:OA):Prop:=∃ cs,kold H 2 a l.length=some cs/\ItC H l cs
theorem Gr.slok {H:KH} {sz n c:Nat} {a:OA} {cs ex:List Value} (h:Gr H sz a n c cs ex) (hsz:1<=sz):SlOk H sz a n c:=by
 cases h with
 | nil=>rfl
 | on b _ e _ _ h1 h2 h3 h4 h5 h6 =>
   have hb:Nat.blt unkU unkU=false:=rfl
   have hc:(Nat.beq sz sz&&Nat.beq 0 0&&Nat.ble 1 sz&&Nat.ble 0 e.len)=true:=by
    simp only [Bool.and_eq_true]
    exact ⟨⟨⟨by simp,rfl⟩,Nat.ble_eq_true_of_le hsz⟩,Nat.ble_eq_true_of_le (Nat.zero_le _)⟩
   refine .inl ⟨rfl,e.len/sz,?_,?_⟩
   .unfold kcap
    simp only [hb,cond_false,h1,h2,Nat.sub_self,Nat.zero_mul]
    rw [hc]
    simp only [cond_true,Nat.sub_zero]
   .rw [h3,List.length_append,h6]
    exact (Nat.le_div_iff_mul_le (by omega)).2 (by omega)
end Go.Ew
namespace Go.Proofs.YtfhjkkbaghanhaaGreat
open Go.Ev Go.Ew
namespace Va
section
variable (ok : EnvOk (env Tryz.prog))
include ok
theorem c85 {s:ByteArray} {l kb ko:Nat} {H:KH} {Q:PQ} (Inv:List (Int × Bool)->KH->Prop)
 (hcell:∀ r H1,Inv r H1->ld H1 ⟨kb,ko,none⟩ [.string s])
 (hstep:∀ c e r H1,Inv ((c,e) :: r) H1->0<=c/\c<256->DoesR (env Tryz.prog) l [.agg #[.int .u8 c,.bool e]] H1 fun v H2=>(v = .bool true/\Inv r H2)\/(v = .bool false/\Q (.tuple #[]) H2))
 (hend:∀ H1,Inv [] H1->Q (.tuple #[]) H1) (hs:s.size<=1000000) (h0:Inv (letL (bytesI s) false) H):Does (env Tryz.prog) 85 [.func (.yield l) #[] #[],.pointer (some ⟨kb,ko,none⟩)] H Q:=by
 refine fn85 ok ⟨s,hcell _ _ h0,?_⟩
 unfold vc85_L2
 refine ⟨fun m n4 n5 n6 b7 x8 x9 H10=>n4=l/\n5=kb/\n6=ko/\x8=(s.size:Nat)/\∃ i:Nat,x9=i/\i<=s.size/\m=s.size-i/\Inv (letL ((bytesI s).drop i) b7) H10,⟨s.size,rfl,rfl,rfl,rfl,rfl,0,rfl,by omega,rfl,by simpa using h0⟩,?_⟩
 rintro m n4 n5 n6 b7 x8 x9 H10 ⟨rfl,rfl,rfl,rfl,i,rfl,hi,rfl,hinv⟩
 refine ⟨fun hlt=>?_,fun hge=>?_⟩
 .have hlt:i<s.size:=by have:=of_decide_eq_true hlt; omega
  have hw:IntKind.wrap .i64 (((i:Nat):Int)+1)=((i+1:Nat):Int):=by rw [wrap64 (by omega) (by omega)]; omega
  have e0:Int.toNat ((i:Nat):Int)=i:=by omega
  have hc:=hcell _ _ hinv
  have hd:=bytes_drop hlt
  rw [hd] at hinv
  have hr:(bytesI s).drop (i+1)≠[]↔i+1<s.size:=by
   rw [Ne,List.drop_eq_nil_iff,bytes_len]; omega
  have join:¬ (byteAt s i=92/\b7=false/\(bytesI s).drop (i+1)≠[])->vc85_J0 H10 n5 n6 (i:Nat) n4 b7 Q (s.size-i) (fun m n4' n5' n6' b7 x8 x9 H10=>n4'=n4/\n5'=n5/\n6'=n6/\x8=(s.size:Nat)/\∃ i:Nat,x9=i/\i<=s.size/\m=s.size-i/\Inv (letL ((bytesI s).drop i) b7) H10) (s.size:Nat):=by
   intro hno
   rw [letL,if_neg hno] at hinv
   unfold vc85_J0
   rw [hw,e0]
   refine ⟨s,hc,⟨by omega,by omega⟩,(hstep _ _ _ _ hinv (byteAt_in s i)).post fun v H3 hv=>?_⟩
   rcases hv with ⟨rfl,hv⟩ | ⟨rfl,hv⟩
   .exact ⟨true,rfl,fun h=>(by cases h),fun _=>⟨s.size-(i+1),by omega,rfl,rfl,rfl,rfl,rfl,i+1,rfl,by omega,rfl,hv⟩⟩
   .exact ⟨false,rfl,fun _=>hv,fun h=>by cases h⟩
  refine ⟨s,hc,⟨by omega,by omega⟩,fun h1=>⟨fun h2=>⟨s,hc,fun h3=>?_,fun h3=>?_⟩,fun h2=>?_⟩,fun h1=>?_⟩
  .rw [e0] at h1
   rw [hw] at h3
   have h3:=of_decide_eq_true h3
   have hyes:byteAt s i=92/\b7=false/\(bytesI s).drop (i+1)≠[]:=⟨of_decide_eq_true h1,by simpa using h2,hr.2 (by omega)⟩
   rw [letL,if_pos hyes] at hinv
   exact ⟨s.size-(i+1),by omega,rfl,rfl,rfl,rfl,rfl,i+1,hw,by omega,rfl,hinv⟩
  .rw [hw] at h3
   have h3:=of_decide_eq_false h3
   exact join fun ⟨_,_,q⟩=>by have:=hr.1 q; omega
  .exact join fun ⟨_,q,_⟩=>by rw [q] at h2; cases h2
  .rw [e0] at h1
   exact join fun ⟨q,_,_⟩=>by have:=of_decide_eq_false h1; exact this q
 .have hge:i=s.size:=by have:=of_decide_eq_false hge; omega
  subst hge
  have:(bytesI s).drop s.size=[]:=List.drop_eq_nil_of_le (by rw [bytes_len]; exact Nat.le_refl _)
  rw [this,letL] at hinv
  exact hend _ hinv
theorem c70 {s:ByteArray} {H:KH} {Q:PQ} (hq:∀ n,H n=none->Q (.func (.func 85) #[] #[.pointer (some ⟨n,0,none⟩)]) (H.new n (mkEnt [.string s] 0))):Does (env Tryz.prog) 70 [.string s] H Q:=fn70 ok fun n hn=>hq n hn
theorem c67s {s:ByteArray} {H:KH} {Q:PQ} (hs:s.size<=100) (hn:readR s=none->∀ H',Le H H'->Q (.tuple #[.slice none 0 0,.bool false]) H') (hq:∀ l,readR s=some l->∀ a c H',Le H H'->ItR H' l a->SlOk H' 2 a l.length c->Q (.tuple #[.slice a l.length c,.bool true]) H'):Does (env Tryz.prog) 48 [.string s] H Q:=by
 refine fn48 ok fun n1 h1 n2 h2 n3 h3=>c70 ok fun ns hns=>⟨_,[.pointer (some ⟨ns,0,none⟩)],rfl,⟨(by kernel_rfl)⟩,fun n8 L9 h8 hR=>?_⟩
 -- names
 have ne21:n2≠n1:=fun x=>by subst x; simp [KH.new] at h2
 have ne31:n3≠n1:=fun x=>by subst x; simp [KH.new,ne21.symm] at h3
 have ne32:n3≠n2:=fun x=>by subst x; simp [KH.new] at h3
 have nes1:ns≠n1:=fun x=>by subst x; simp [KH.new,ne31.symm,ne21.symm] at hns
 have nes2:ns≠n2:=fun x=>by subst x; simp [KH.new,ne32.symm] at hns
 have nes3:ns≠n3:=fun x=>by subst x; simp [KH.new] at hns
 have ne81:n8≠n1:=fun x=>by subst x; simp [KH.new,nes1.symm,ne31.symm,ne21.symm] at h8
 have ne82:n8≠n2:=fun x=>by subst x; simp [KH.new,nes2.symm,ne32.symm] at h8
 have ne83:n8≠n3:=fun x=>by subst x; simp [KH.new,nes3.symm] at h8
 have ne8s:n8≠ns:=fun x=>by subst x; simp [KH.new] at h8
 have hH2:H n2=none:=by simpa [KH.new,ne21] using h2
 have hH3:H n3=none:=by simpa [KH.new,ne31,ne32] using h3
 have hHs:H ns=none:=by simpa [KH.new,nes1,nes2,nes3] using hns
 have hH8:H n8=none:=by simpa [KH.new,ne81,ne82,ne83,ne8s] using h8
 generalize hE:(mkEnt [.slice none 0 0,.slice none 0 0,.bool false,.int .i64 0,.bool false,.slice none 0 0,.int .i64 0] 0:Ent)=E3
 generalize hEs:(mkEnt [.string s] 0:Ent)=Es
 let F:List (Nat × Ent):=[(n1,mkEnt [.slice none 0 0] 0),(n2,mkEnt [.bool false] 0)]
 let Inv:List (Int × Bool)->KH->Prop:=fun r H1=>∃ X W σ k,H1 n8=some (lpE L9 0 none)/\Fu X W n3 σ/\Le (H.new ns Es) X/\frL W F/\Le (addL W F) (H1.del n8)/\Wf k σ/\k+r.length<=200/\(foldT rd0 (letL (bytesI s) false)=foldT σ r)
 have hF:∀ W,frL W F↔(W.new n2 (mkEnt [.bool false] 0)) n1=none/\W n2=none/\True:=fun W=>Iff.rfl
 have key:∀ {r:List (Int × Bool)} {H1:KH},Inv r H1->∀ k e,H1.del n8 k=some e->H1 k=some e:=fun _ k e q=>by
  simp only [KH.del] at q
  split at q
  .cases q
  .exact q
 have lits:∀ {cs:List Value} {K:KH} {n:Nat},K n=some (mkEnt cs 0)->ld K ⟨n,0,none⟩ cs:=fun {cs K n} hk=>⟨rfl,_,hk,rd_some rfl fun j v hv=>by rw [Nat.zero_add]; simp only [mkEnt,tget_wr_nil]; exact hv⟩
 have inF:∀ {W K:KH},frL W F->Le (addL W F) K->K n1=some (mkEnt [.slice none 0 0] 0)/\K n2=some (mkEnt [.bool false] 0):=fun {W K} hf hl=>⟨hl _ _ (if_pos rfl),hl _ _ (by simp [addL,F,KH.new,ne21])⟩
 -- what a store into the two cells leaves
 have puts:∀ {W K:KH} {v1 v2:Value},frL W F->Le (addL W F) K->Le W ((K.put ⟨n1,0,none⟩ [v1]).put ⟨n2,0,none⟩ [v2])/\((K.put ⟨n1,0,none⟩ [v1]) n2=some (mkEnt [.bool false] 0))/\ld ((K.put ⟨n1,0,none⟩ [v1]).put ⟨n2,0,none⟩ [v2]) ⟨n1,0,none⟩ [v1]/\ld ((K.put ⟨n1,0,none⟩ [v1]).put ⟨n2,0,none⟩ [v2]) ⟨n2,0,none⟩ [v2]:=by
  intro W K v1 v2 hf hl
  obtain ⟨k1,k2⟩:=inF hf hl
  obtain ⟨f1,f2,_⟩:=(hF W).1 hf
  have f1:W n1=none:=by simpa [KH.new,ne21.symm] using f1
  have p2:(K.put ⟨n1,0,none⟩ [v1]) n2=some (mkEnt [.bool false] 0):=put_ne ne21 k2
  refine ⟨fun k e q=>?_,p2,?_,?_⟩
  .refine put_ne (fun x=>by subst x; rw [f2] at q; cases q) (put_ne (fun x=>by subst x; rw [f1] at q; cases q) ?_)
   exact hl _ _ (addL_le hf _ _ q)
  .refine ⟨rfl,⟨wr (mkEnt [.slice none 0 0] 0).cells 0 [v1],(mkEnt [.slice none 0 0] 0).len,(mkEnt [.slice none 0 0] 0).unk,none⟩,put_ne ne21.symm (by simp only [KH.put,if_true,k1,Option.map_some]),?_⟩
   exact rd_some rfl fun j v hv=>by
    match j,hv with
    | 0,hv=>rw [tget_wr]; simpa using hv
    | j+1,hv=>simp at hv
  .refine ⟨rfl,⟨wr (mkEnt [.bool false] 0).cells 0 [v2],(mkEnt [.bool false] 0).len,(mkEnt [.bool false] 0).unk,none⟩,by simp only [KH.put,if_true]; rw [show (if n2=n1 then Option.map _ (K n2) else K n2)=some (mkEnt [.bool false] 0) from p2]; rfl,?_⟩
   exact rd_some rfl fun j v hv=>by
    match j,hv with
    | 0,hv=>rw [tget_wr]; simpa using hv
    | j+1,hv=>simp at hv
 have leH:∀ {X:KH},Le (H.new ns Es) X->Le H X:=fun h=>(Le.new hHs).trans h
 refine c85 ok (s:=s) Inv (fun r H1 hi=>?_) (fun c e r H1 hi hc=>?_) (fun H1 hi=>?_) (by omega) ?_
 .obtain ⟨X,W,σ,k,g1,g2,g3,g4,g5,g6,g7,g8⟩:=hi
  have:=key ⟨X,W,σ,k,g1,g2,g3,g4,g5,g6,g7,g8⟩ ns Es (g5 _ _ (addL_le g4 _ _ (g2.le _ _ (g3 _ _ (if_pos rfl)))))
  rw [<- hEs] at this
  exact lits this
 .have hi':=hi
  obtain ⟨X,W,σ,k,g1,g2,g3,g4,g5,g6,g7,g8⟩:=hi
  simp only [List.length_cons] at g7
  rw [foldT] at g8
  refine hR c e H1 _ g1 (Does.keep g4 g5 (c71 ok g2 g6 (by omega) hc (fun ht W' hW' hf H15 hl=>⟨false,rfl,fun _=>?_,fun h=>(by cases h)⟩) fun τ ht X' W' hX hFu hf H15 hl=>⟨true,rfl,fun h=>(by cases h),fun _ h15=>.inl ⟨rfl,?_⟩⟩))
  .obtain ⟨k1,k2⟩:=inF hf hl
   obtain ⟨q1,q2,q3,q4⟩:=puts (v1:=.slice none 0 0) (v2:=.bool false) hf hl
   refine ⟨stOk (lits k1) rfl,⟨_,k1,rfl⟩,stOk (lits q2) rfl,⟨_,q2,rfl⟩,fun h15=>.inr ⟨rfl,.inr (.inl ⟨if_pos rfl,none,0,0,?_,false,?_,?_⟩)⟩⟩
   .exact Le.ld (fun k e q=>by simp only [KH.del,KH.new] at q ⊢; rw [if_neg (fun x=>by subst x; rw [h15] at q; cases q),if_neg (fun x=>by subst x; rw [h15] at q; cases q)]; exact q) q3
   .exact Le.ld (fun k e q=>by simp only [KH.del,KH.new] at q ⊢; rw [if_neg (fun x=>by subst x; rw [h15] at q; cases q),if_neg (fun x=>by subst x; rw [h15] at q; cases q)]; exact q) q4
   .refine hn ?_ _ fun k e q=>?_
    .unfold readR; rw [g8,ht]
    .have:=q1 _ _ (hW' _ _ (leH g3 _ _ q))
     simp only [KH.del,KH.new]
     rw [if_neg (fun x=>by subst x; rw [hH8] at q; cases q),if_neg (fun x=>by subst x; rw [hH8] at q; cases q)]
     exact this
  .refine ⟨X',W',τ,k+1,if_pos rfl,hFu,g3.trans hX,hf,fun k e q=>?_,take_wf g6 ht,by omega,?_⟩
   .have:=hl k e q
    simp only [KH.del,KH.new]
    rw [if_neg (fun x=>by subst x; rw [h15] at this; cases this),if_neg (fun x=>by subst x; rw [h15] at this; cases this)]
    exact this
   .rw [g8,ht]
 .obtain ⟨X,W,σ,k,g1,g2,g3,g4,g5,g6,g7,g8⟩:=hi
  have hk:σ.items.length<=900:=by have:=g6.1; simp only [List.length_nil] at g7; omega
  refine .inl ⟨g1,Does.keep g4 g5 (c72 ok g2 hk (fun ht hf H2 hl=>⟨false,rfl,fun _=>?_,fun h=>(by cases h)⟩) fun τ ht W' hC hf H2 hl=>⟨true,rfl,fun h=>(by cases h),fun _=>?_⟩)⟩
  .obtain ⟨k1,k2⟩:=inF hf hl
   obtain ⟨q1,q2,q3,q4⟩:=puts (v1:=.slice none 0 0) (v2:=.bool false) hf hl
   refine ⟨stOk (lits k1) rfl,⟨_,k1,rfl⟩,stOk (lits q2) rfl,⟨_,q2,rfl⟩,none,0,0,q3,false,q4,hn ?_ _ ((leH g3).trans (g2.le.trans q1))⟩
   unfold readR; rw [g8,foldT]; simp only [ht]
  .obtain ⟨k1,k2⟩:=inF hf hl
   obtain ⟨ai,ci,ao,co,csI,exo,hC⟩:=hC
   obtain ⟨q1,q2,q3,q4⟩:=puts (v1:=.slice ai τ.items.length ci) (v2:=.bool true) hf hl
   have hle:Le W' H2:=(addL_le hf).trans hl
   refine ⟨rfl,ai,_,ci,hle.ld hC.c0,stOk (lits k1) rfl,⟨_,k1,rfl⟩,stOk (lits q2) rfl,⟨_,q2,rfl⟩,ai,_,ci,q3,true,q4,hq τ.items ?_ ai ci _ ((leH g3).trans (hC.pt.le.trans q1)) ⟨csI,?_,?_⟩ ((hC.items.slok (by decide)).mono q1)⟩
   .unfold readR; rw [g8,foldT]; simp only [ht]
   .exact q1.kold hC.items.row
   .exact hC.itc.mono (hC.pt.le.trans q1)
 .have hX3:(H.new ns Es) n3=none:=by simp only [KH.new]; rw [if_neg nes3.symm]; exact hH3
  refine ⟨H.new ns Es,(H.new ns Es).new n3 E3,rd0,0,if_pos rfl,Fu.of_none rfl ⟨none,0,none,0,[],[],⟨Le.new hX3,hX3,E3,if_pos rfl,by rw [<- hE]; rfl,?_⟩,fun b q=>(by cases q),fun b q=>(by cases q),.nil,rfl,.nil,⟨by decide,by decide,fun g hg=>(by cases hg)⟩⟩,Le.refl _,⟨?_,?_,trivial⟩,fun k e q=>?_,⟨by decide,fun l pl q=>(by cases q)⟩,?_,rfl⟩
  .rw [<- hE]
   exact rd_some rfl fun j v hv=>by rw [Nat.zero_add]; simp only [mkEnt,tget_wr_nil]; exact hv
  .show (((H.new ns Es).new n3 E3).new n2 _) n1=none
   simp only [KH.new]
   rw [if_neg ne21.symm,if_neg ne31.symm,if_neg nes1.symm]
   exact h1
  .show ((H.new ns Es).new n3 E3) n2=none
   simp only [KH.new]
   rw [if_neg ne32.symm,if_neg nes2.symm]
   exact hH2
  .have q:(((((H.new ns Es).new n3 E3).new n2 (mkEnt [.bool false] 0)).new n1 (mkEnt [.slice none 0 0] 0)) k)=some e:=q
   simp only [KH.del,KH.new] at q ⊢
   have hk8:k≠n8:=fun x=>by
    subst x
    rw [if_neg ne81,if_neg ne82,if_neg ne83,if_neg ne8s,hH8] at q
    cases q
   rw [if_neg hk8,if_neg hk8]
   by_cases a1:k=n1
   .subst a1
    rw [if_pos rfl] at q
    rw [if_neg nes1.symm,if_neg ne31.symm,if_neg ne21.symm,if_pos rfl]
    exact q
   .rw [if_neg a1] at q ⊢
    by_cases a2:k=n2
    .subst a2
     rw [if_pos rfl] at q
     rw [if_neg nes2.symm,if_neg ne32.symm,if_pos rfl]
     exact q
    .rw [if_neg a2] at q ⊢
     by_cases a3:k=n3
     .subst a3
      rw [if_pos rfl] at q
      rw [if_neg nes3.symm,if_pos rfl]
      exact q
     .rw [if_neg a3] at q ⊢
      exact q
  .have:=let_len (bytesI s) false
   rw [bytes_len] at this
   omega
theorem c51s {s:ByteArray} {H:KH} {Q:PQ} (hn:parseR s=none->∀ H',Le H H'->Q (.tuple #[.slice none 0 0,.bool false]) H') (hq:∀ l,parseR s=some l->∀ a c H',Le H H'->ItR H' l a->SlOk H' 2 a l.length c->Q (.tuple #[.slice a l.length c,.bool true]) H'):Does (env Tryz.prog) 31 [.string s] H Q:=by
 refine fn31 ok ⟨fun h1=>?_,fun h1=>⟨fun h2=>?_,fun h2=>?_⟩⟩
 .have h1:=of_decide_eq_true h1
  exact hn (if_pos (.inl (by omega))) H (Le.refl _)
 .have h2:=of_decide_eq_true h2
  exact hn (if_pos (.inr (by omega))) H (Le.refl _)
 .have h1:=of_decide_eq_false h1
  have h2:=of_decide_eq_false h2
  have e:parseR s=readR s:=if_neg (by omega)
  rw [e] at hn hq
  exact c67s ok (by omega) (fun q H' hl=>⟨_,_,_,_,rfl,hn q H' hl⟩) fun l q a c H' hl hi hso=>⟨_,_,_,_,rfl,hq l q a c H' hl hi hso⟩
theorem c31 {s:ByteArray} {H:KH} {Q:PQ} (hn:parseR s=none->∀ H',Le H H'->Q (.tuple #[.slice none 0 0,.bool false]) H') (hq:∀ l,parseR s=some l->∀ a c H',Le H H'->ItR H' l a->Q (.tuple #[.slice a l.length c,.bool true]) H'):Does (env Tryz.prog) 31 [.string s] H Q:=c51s ok hn fun l q a c H' hl hi _=>hq l q a c H' hl hi
end
end Va
end Go.Proofs.YtfhjkkbaghanhaaGreat
namespace Go.Ew
open Go.Ev Go.Deep
theorem foldT_app:∀ (l m:List (Int × Bool)) (σ:RdS),foldT σ (l++m)=(foldT σ l).bind fun τ=>foldT τ m
 | [],m,σ=>rfl
 | (c,e) :: l,m,σ=>by
  simp only [List.cons_append,foldT]
  cases takeR σ c e with
  | none=>rfl
  | some τ=>exact foldT_app l m τ
def Good (σ:RdS):Prop:=σ.cls=none/\σ.outer=[]/\(σ.atoms=0\/σ.atoms=1\/σ.atoms=2)
def Some1 (σ:RdS):Prop:=σ.atoms=1\/σ.atoms=2
def Adv (l:List Int):Prop:=∀ (σ:RdS) (r:List Int),Good σ->∃ τ,Good τ/\Some1 τ/\foldT σ (letL (l++r) false)=foldT τ (letL r false)
def Suf (l:List Int):Prop:=∀ (σ:RdS) (r:List Int),Good σ->Some1 σ->∃ τ,Good τ/\Some1 τ/\foldT σ (letL (l++r) false)=foldT τ (letL r false)
theorem Adv.suf {l m:List Int} (h:Adv l) (k:Suf m):Adv (l++m):=fun σ r hg=>by
 obtain ⟨τ,g1,g2,g3⟩:=h σ (m++r) hg
 obtain ⟨ρ,k1,k2,k3⟩:=k τ r g1 g2
 exact ⟨ρ,k1,k2,by rw [List.append_assoc,g3,k3]⟩
theorem Adv.toSuf {l:List Int} (h:Adv l):Suf l:=fun σ r hg _=>h σ r hg
theorem Suf.nil:Suf []:=fun σ r hg hs=>⟨σ,hg,hs,rfl⟩
theorem adv_of {l:List Int} {ls:List (Int × Bool)} (hl:∀ r,letL (l++r) false=ls++letL r false)
 (h:∀ (items:List It) (b:Bool) (a:Int),a=0\/a=1\/a=2->∃ τ,foldT ⟨items,[],b,a,none⟩ ls=some τ/\Good τ/\Some1 τ):Adv l:=fun σ r hg=>by
 obtain ⟨items,outer,b,a,cls⟩:=σ
 obtain ⟨h1,h2,h3⟩:=hg
 cases h1
 cases h2
 obtain ⟨τ,k1,k2,k3⟩:=h items b a h3
 exact ⟨τ,k2,k3,by rw [hl,foldT_app,k1]; rfl⟩
theorem suf_of {l:List Int} {ls:List (Int × Bool)} (hl:∀ r,letL (l++r) false=ls++letL r false)
 (h:∀ (items:List It) (b:Bool) (a:Int),a=1\/a=2->∃ τ,foldT ⟨items,[],b,a,none⟩ ls=some τ/\Good τ/\Some1 τ):Suf l:=fun σ r hg hs=>by
 obtain ⟨items,outer,b,a,cls⟩:=σ
 obtain ⟨h1,h2,h3⟩:=hg
 cases h1
 cases h2
 obtain ⟨τ,k1,k2,k3⟩:=h items b a hs
 exact ⟨τ,k2,k3,by rw [hl,foldT_app,k1]; rfl⟩
theorem good1 {items:List It} {b:Bool}:Good ⟨items,[],b,1,none⟩/\Some1 ⟨items,[],b,1,none⟩:=⟨⟨rfl,rfl,.inr (.inl rfl)⟩,.inl rfl⟩
theorem good2 {items:List It} {b:Bool}:Good ⟨items,[],b,2,none⟩/\Some1 ⟨items,[],b,2,none⟩:=⟨⟨rfl,rfl,.inr (.inr rfl)⟩,.inr rfl⟩
theorem adv_a:Adv [97]:=adv_of (ls:=[(97,false)]) (fun r=>rfl) fun items b a h=>by
 rcases h with rfl | rfl | rfl
 .exact ⟨_,rfl,good1⟩
 .exact ⟨_,rfl,good2⟩
 .exact ⟨_,rfl,good2⟩
theorem adv_b:Adv [98]:=adv_of (ls:=[(98,false)]) (fun r=>rfl) fun items b a h=>by
 rcases h with rfl | rfl | rfl
 .exact ⟨_,rfl,good1⟩
 .exact ⟨_,rfl,good2⟩
 .exact ⟨_,rfl,good2⟩
theorem adv_c1:Adv [91,97,98,93]:=adv_of (ls:=[(91,false),(97,false),(98,false),(93,false)]) (fun r=>rfl) fun items b a h=>by
 rcases h with rfl | rfl | rfl
 .exact ⟨_,rfl,good1⟩
 .exact ⟨_,rfl,good2⟩
 .exact ⟨_,rfl,good2⟩
theorem adv_ab:Adv [97,98]:=adv_of (ls:=[(97,false),(98,false)]) (fun r=>rfl) fun items b a h=>by
 rcases h with rfl | rfl | rfl
 .exact ⟨_,rfl,good2⟩
 .exact ⟨_,rfl,good2⟩
 .exact ⟨_,rfl,good2⟩
theorem adv_g1:Adv [40,97,124,98,41]:=adv_of (ls:=[(40,false),(97,false),(124,false),(98,false),(41,false)]) (fun r=>rfl) fun items b a h=>by
 rcases h with rfl | rfl | rfl
 .exact ⟨_,rfl,good1⟩
 .exact ⟨_,rfl,good2⟩
 .exact ⟨_,rfl,good2⟩
theorem adv_c2:Adv [91,97,45,99,48,45,49,93]:=adv_of (ls:=[(91,false),(97,false),(45,false),(99,false),(48,false),(45,false),(49,false),(93,false)]) (fun r=>rfl) fun items b a h=>by
 rcases h with rfl | rfl | rfl
 .exact ⟨_,rfl,good1⟩
 .exact ⟨_,rfl,good2⟩
 .exact ⟨_,rfl,good2⟩
theorem adv_g2:Adv [40,97,98,124,97,41]:=adv_of (ls:=[(40,false),(97,false),(98,false),(124,false),(97,false),(41,false)]) (fun r=>rfl) fun items b a h=>by
 rcases h with rfl | rfl | rfl
 .exact ⟨_,rfl,good1⟩
 .exact ⟨_,rfl,good2⟩
 .exact ⟨_,rfl,good2⟩
theorem adv_dot:Adv [46]:=adv_of (ls:=[(46,false)]) (fun r=>rfl) fun items b a h=>by
 rcases h with rfl | rfl | rfl
 .exact ⟨_,rfl,good1⟩
 .exact ⟨_,rfl,good2⟩
 .exact ⟨_,rfl,good2⟩
theorem adv_plus:Adv [92,43]:=adv_of (ls:=[(43,true)]) (fun r=>rfl) fun items b a h=>by
 rcases h with rfl | rfl | rfl
 .exact ⟨_,rfl,good1⟩
 .exact ⟨_,rfl,good2⟩
 .exact ⟨_,rfl,good2⟩
theorem suf_star:Suf [42]:=suf_of (ls:=[(42,false)]) (fun r=>rfl) fun items b a h=>by
 rcases h with rfl | rfl
 .exact ⟨_,rfl,good1⟩
 .exact ⟨_,rfl,good2⟩
theorem suf_plus:Suf [43]:=suf_of (ls:=[(43,false)]) (fun r=>rfl) fun items b a h=>by
 rcases h with rfl | rfl
 .exact ⟨_,rfl,good1⟩
 .exact ⟨_,rfl,good2⟩
theorem suf_may:Suf [63]:=suf_of (ls:=[(63,false)]) (fun r=>rfl) fun items b a h=>by
 rcases h with rfl | rfl
 .exact ⟨_,rfl,good1⟩
 .exact ⟨_,rfl,good2⟩
theorem suf_or1:Suf [124,98]:=suf_of (ls:=[(124,false),(98,false)]) (fun r=>rfl) fun items b a h=>by
 rcases h with rfl | rfl<;>cases b<;>exact ⟨_,rfl,good1⟩
theorem suf_or2:Suf [124,98,97]:=suf_of (ls:=[(124,false),(98,false),(97,false)]) (fun r=>rfl) fun items b a h=>by
 rcases h with rfl | rfl<;>cases b<;>exact ⟨_,rfl,good2⟩
theorem suf_or3:Suf [124,99,43]:=suf_of (ls:=[(124,false),(99,false),(43,false)]) (fun r=>rfl) fun items b a h=>by
 rcases h with rfl | rfl<;>cases b<;>exact ⟨_,rfl,good1⟩
theorem bytes_app (a b:ByteArray):bytesI (a++b)=bytesI a++bytesI b:=by
 unfold bytesI
 rw [ByteArray.data_append,Array.toList_append,List.map_append]
theorem adv_parse {s:ByteArray} (h:Adv (bytesI s)) (h1:1<=s.size) (h2:s.size<=24):∃ l,parseR s=some l:=by
 obtain ⟨τ,g1,g2,g3⟩:=h rd0 [] ⟨rfl,rfl,.inl rfl⟩
 rw [List.append_nil] at g3
 have g3:foldT rd0 (letL (bytesI s) false)=some τ:=g3
 obtain ⟨c1,c2,c3⟩:=g1
 have hne:τ.atoms≠0:=by rcases g2 with q | q<;>omega
 obtain ⟨ρ,hρ⟩:∃ ρ,endR τ=some ρ:=by unfold endR; rw [if_neg hne]; exact ⟨_,rfl⟩
 refine ⟨ρ.items,?_⟩
 unfold parseR
 rw [if_neg (by omega)]
 unfold readR
 rw [g3]
 have:finR τ=endR τ:=by unfold finR; rw [c1,c2]; rfl
 simp only [this,hρ]
def cntI:List It->Int
 | []=>0
 | (op,l) :: r=>(if op=1 then 1 else if op=2\/op=3 then -1 else 0)+cntI r
theorem cnt_app:∀ (a b:List It),cntI (a++b)=cntI a+cntI b
 | [],b=>by simp [cntI]
 | (op,l) :: r,b=>by simp only [List.cons_append,cntI,cnt_app r b]; omega
def okRg (r:Rg):Prop:=r.1<=r.2/\32<=r.1/\r.2<=126
def okIt (i:It):Prop:=(i.1=1/\i.2≠[]/\∀ r∈i.2,okRg r)\/((i.1=2\/i.1=3\/i.1=4\/i.1=5\/i.1=6)/\i.2=[])
structure Fine (l:List It):Prop where
 each:∀ i∈l,okIt i
 pre:∀ k,0<k->k<=l.length->1<=cntI (l.take k)
theorem Fine.app {l:List It} {i:It} (h:Fine l) (hi:okIt i) (hc:1<=cntI (l++[i])):Fine (l++[i]):=by
 refine ⟨fun j hj=>?_,fun k h1 h2=>?_⟩
 .rcases List.mem_append.1 hj with hj | hj
  .exact h.each j hj
  .have:j=i:=by simpa using hj
   subst this; exact hi
 .simp only [List.length_append,List.length_cons,List.length_nil] at h2
  by_cases hk:k<=l.length
  .rw [List.take_append_of_le_length hk]
   exact h.pre k h1 hk
  .have:k=(l++[i]).length:=by simp; omega
   rw [this,List.take_length]
   exact hc
def b1 (b:Bool):Int:=if b=true then 1 else 0
def outC:List (Bool × Int)->Int
 | []=>0
 | g :: r=>g.2+b1 g.1+outC r
theorem outC_app:∀ (a b:List (Bool × Int)),outC (a++b)=outC a+outC b
 | [],b=>by simp [outC]
 | g :: r,b=>by simp only [List.cons_append,outC,outC_app r b]; omega
theorem b1_nn (b:Bool):0<=b1 b/\b1 b<=1:=by cases b<;>decide
structure Iv (σ:RdS):Prop where
 fine:Fine σ.items
 cnt:cntI σ.items=σ.atoms+b1 σ.parted+outC σ.outer
 at_:0<=σ.atoms/\σ.atoms<=2
 out:∀ g∈σ.outer,0<=g.2/\g.2<=1
 cls:∀ l pl,σ.cls=some (l,pl)->∀ r∈l,okRg r
theorem outC_nn:∀ {l:List (Bool × Int)},(∀ g∈l,0<=g.2/\g.2<=1)->0<=outC l
 | [],_=>by simp [outC]
 | g :: r,h=>by
   have h1:=h g (by simp)
   have h2:=outC_nn (l:=r) fun x hx=>h x (by simp [hx])
   have:=b1_nn g.1
   simp only [outC]; omega
theorem Iv.put {σ:RdS} (h:Iv σ) {op:Int} (ho:op=4\/op=5\/op=6) (ha:σ.atoms≠0):Iv (putR σ op):=by
 have hn:=outC_nn h.out
 have hb:=b1_nn σ.parted
 have hc:cntI (σ.items++[(op,[])])=cntI σ.items:=by
  rw [cnt_app]; simp only [cntI]; rw [if_neg (by omega),if_neg (by omega)]; omega
 refine ⟨h.fine.app (.inr ⟨by omega,rfl⟩) ?_,?_,h.at_,h.out,h.cls⟩
 .rw [hc,h.cnt]; have:=h.at_; omega
 .show cntI (σ.items++[(op,[])])=_
  rw [hc]; exact h.cnt
theorem Iv.join {σ:RdS} (h:Iv σ):Iv (joinR σ):=by
 unfold joinR
 split
 .rename_i h2
  have hn:=outC_nn h.out
  have hb:=b1_nn σ.parted
  have hc:cntI (σ.items++[(2,[])])=cntI σ.items-1:=by rw [cnt_app]; simp only [cntI]; rfl
  refine ⟨h.fine.app (.inr ⟨.inl rfl,rfl⟩) ?_,?_,(show (0:Int)<=1/\(1:Int)<=2 by decide),h.out,h.cls⟩
  .rw [hc,h.cnt]; omega
  .show cntI (σ.items++[(2,[])])=1+b1 σ.parted+outC σ.outer
   rw [hc,h.cnt]; omega
 .exact h
theorem Iv.add {σ:RdS} (h:Iv σ) {l:List Rg} (hl:l≠[]) (hr:∀ r∈l,okRg r):Iv (addClassR σ l):=by
 have hj:=h.join
 have hja:=join_atoms h.at_
 have hn:=outC_nn hj.out
 have hb:=b1_nn (joinR σ).parted
 have hc:cntI ((joinR σ).items++[(1,l)])=cntI (joinR σ).items+1:=by rw [cnt_app]; simp only [cntI]; rfl
 refine ⟨hj.fine.app (.inl ⟨rfl,hl,hr⟩) ?_,?_,?_,hj.out,hj.cls⟩
 .rw [hc,hj.cnt]; omega
 .show cntI ((joinR σ).items++[(1,l)])=((joinR σ).atoms+1)+b1 (joinR σ).parted+outC (joinR σ).outer
  rw [hc,hj.cnt]; omega
 .show 0<=(joinR σ).atoms+1/\(joinR σ).atoms+1<=2
  omega
theorem Iv.end_ {σ τ:RdS} (h:Iv σ) (he:endR σ=some τ):Iv τ/\τ.parted=true/\τ.atoms=0/\τ.outer=σ.outer:=by
 have ho:=end_outer he
 unfold endR at he
 split at he
 .cases he
 .rename_i h0
  cases he
  have hj:=h.join
  have hja:=join_atoms h.at_
  have hjz:=join_zero h0
  have hn:=outC_nn hj.out
  refine ⟨?_,rfl,rfl,ho⟩
  by_cases hp:(joinR σ).parted=true
  .have hc:cntI ((joinR σ).items++[(3,[])])=cntI (joinR σ).items-1:=by rw [cnt_app]; simp only [cntI]; rfl
   have hcn:=hj.cnt
   rw [hp] at hcn
   have e1:b1 true=1:=rfl
   rw [e1] at hcn
   simp only [if_pos hp]
   refine ⟨hj.fine.app (.inr ⟨.inr (.inl rfl),rfl⟩) ?_,?_,(show (0:Int)<=0/\(0:Int)<=2 by decide),hj.out,hj.cls⟩
   .rw [hc]; omega
   .show cntI ((joinR σ).items++[(3,[])])=0+b1 true+outC (joinR σ).outer
    rw [hc,e1]; omega
  .have hcn:=hj.cnt
   have e0:b1 (joinR σ).parted=0:=by unfold b1; rw [if_neg hp]
   rw [e0] at hcn
   simp only [if_neg hp]
   refine ⟨hj.fine,?_,(show (0:Int)<=0/\(0:Int)<=2 by decide),hj.out,hj.cls⟩
   show cntI (joinR σ).items=0+b1 true+outC (joinR σ).outer
   have e1:b1 true=1:=rfl
   rw [e1]; omega
theorem stands_rg {c:Int} {e:Bool} {L:List Int} (h:standsB c e L=true):32<=c/\c<=126:=by
 unfold standsB at h
 simp only [Bool.and_eq_true,decide_eq_true_eq] at h
 exact ⟨h.1,h.2.1⟩
theorem Iv.mark {σ τ:RdS} {c:Int} (h:Iv σ) (hcl:σ.cls=none) (ht:markR σ c=some τ):Iv τ:=by
 unfold markR at ht
 split at ht
 .unfold openR at ht
  split at ht
  .cases ht
   have hj:=h.join
   have hja:=join_atoms h.at_
   refine ⟨hj.fine,?_,(show (0:Int)<=0/\(0:Int)<=2 by decide),fun g hg=>?_,hj.cls⟩
   .show cntI (joinR σ).items=0+b1 false+outC ((joinR σ).outer++[((joinR σ).parted,(joinR σ).atoms)])
    rw [outC_app,hj.cnt]
    simp only [outC]
    have e0:b1 false=0:=rfl
    rw [e0]; omega
   .rcases List.mem_append.1 hg with hg | hg
    .exact hj.out g hg
    .have:g=((joinR σ).parted,(joinR σ).atoms):=by simpa using hg
     subst this; exact hja
  .cases ht
 split at ht
 .unfold closeR at ht
  split at ht
  .cases ht
  .rename_i g hg
   split at ht
   .cases ht
   .rename_i τ' he
    cases ht
    obtain ⟨i1,i2,i3,i4⟩:=h.end_ he
    have hne:σ.outer≠[]:=fun e=>by rw [e] at hg; cases hg
    have hsp:σ.outer=σ.outer.dropLast++[g]:=by
     have:=List.dropLast_concat_getLast hne
     rw [List.getLast?_eq_some_getLast hne] at hg
     cases hg
     exact this.symm
    have hgm:=h.out g (by rw [hsp]; simp)
    refine ⟨i1.fine,?_,?_,fun x hx=>h.out x (by rw [hsp]; simp [hx]),i1.cls⟩
    .show cntI τ'.items=(g.2+1)+b1 g.1+outC σ.outer.dropLast
     have:=i1.cnt
     rw [i2,i3,i4,hsp,outC_app] at this
     simp only [outC] at this
     have e1:b1 true=1:=rfl
     rw [e1] at this
     omega
    .show 0<=g.2+1/\g.2+1<=2
     omega
 split at ht
 .unfold openC at ht
  split at ht
  .cases ht
   exact ⟨h.fine,h.cnt,h.at_,h.out,fun l pl q=>by cases q; simp⟩
  .cases ht
 split at ht
 .cases ht
  exact h.add (by simp) (by simp [okRg])
 split at ht
 .exact (h.end_ ht).1
 have rep:∀ op,(op=4\/op=5\/op=6)->repeatR σ op=some τ->Iv τ:=fun op ho ht=>by
  unfold repeatR at ht
  split at ht
  .cases ht
  .rename_i h0
   cases ht
   exact h.put ho h0
 split at ht
 .exact rep _ (by decide) ht
 split at ht
 .exact rep _ (by decide) ht
 split at ht
 .exact rep _ (by decide) ht
 .cases ht
theorem Iv.take {σ τ:RdS} {c:Int} {e:Bool} (h:Iv σ) (ht:takeR σ c e=some τ):Iv τ:=by
 unfold takeR at ht
 split at ht
 .rename_i l pl hc
  have hr:=h.cls l pl hc
  unfold inClassR at ht
  split at ht
  .rename_i hst
   have hcr:=stands_rg hst
   split at ht
   .rename_i x hx
    cases ht
    refine ⟨h.fine,h.cnt,h.at_,h.out,fun m pl' q r hm=>?_⟩
    have q:x=(m,pl'):=Option.some.inj q
    subst q
    unfold addC at hx
    split at hx
    .cases hx
     rcases List.mem_append.1 hm with hm | hm
     .exact hr r hm
     .have:r=(c,c):=by simpa using hm
      subst this; exact ⟨Int.le_refl _,hcr.1,hcr.2⟩
    .split at hx
     .cases hx
     .rename_i r' hr'
      split at hx
      .cases hx
      .rename_i hlt
       cases hx
       have hl2:=hr r' (List.mem_of_getLast? hr')
       rcases List.mem_append.1 hm with hm | hm
       .exact hr r ((List.dropLast_subset l) hm)
       .have:r=(r'.1,c):=by simpa using hm
        subst this
        exact ⟨by show r'.1<=c; omega,hl2.2.1,hcr.2⟩
   .cases ht
  .split at ht
   .split at ht
    .cases ht
     exact ⟨h.fine,h.cnt,h.at_,h.out,fun m pl' q=>by cases q; exact hr⟩
    .cases ht
   .split at ht
    .split at ht
     .rename_i hw
      cases ht
      have hne:l≠[]:=fun q=>by subst q; simp [wholeC] at hw
      have:=h.add hne hr
      exact ⟨this.fine,this.cnt,this.at_,this.out,fun m pl' q=>by cases q⟩
     .cases ht
    .cases ht
 .rename_i hc
  split at ht
  .rename_i hst
   have hcr:=stands_rg hst
   cases ht
   refine h.add (by simp) fun r hr=>?_
   have:r=(c,c):=by simpa using hr
   subst this; exact ⟨Int.le_refl _,hcr.1,hcr.2⟩
  .exact h.mark hc ht
theorem Iv.fold:∀ {l:List (Int × Bool)} {σ τ:RdS},Iv σ->foldT σ l=some τ->Iv τ
 | [],σ,τ,h,hf=>by cases hf; exact h
 | (c,e) :: l,σ,τ,h,hf=>by
  rw [foldT] at hf
  cases ht:takeR σ c e with
  | none=>rw [ht] at hf; cases hf
  | some ρ=>rw [ht] at hf; exact Iv.fold (h.take ht) hf
theorem parse_fine {s:ByteArray} {l:List It} (h:parseR s=some l):Fine l/\cntI l=1:=by
 unfold parseR at h
 split at h
 .cases h
 .unfold readR at h
  split at h
  .cases h
  .rename_i σ hf
   split at h
   .cases h
   .rename_i τ he
    cases h
    have f0:Fine rd0.items:=⟨fun i hi=>(by cases hi),fun k h1 h2=>by
     have:k<=0:=h2
     omega⟩
    have h0:Iv rd0:=⟨f0,rfl,(show (0:Int)<=0/\(0:Int)<=2 by decide),fun g hg=>(by cases hg),fun l pl q=>(by cases q)⟩
    have h1:=h0.fold hf
    unfold finR at he
    split at he
    .cases he
    .split at he
     .rename_i hout
      obtain ⟨i1,i2,i3,i4⟩:=h1.end_ he
      have hnil:σ.outer=[]:=List.eq_nil_of_length_eq_zero hout
      have:=i1.cnt
      rw [i2,i3,i4,hnil] at this
      exact ⟨i1.fine,this⟩
     .cases he
def pre (P:List It) (σ:RdS):RdS:={ σ with items:=P++σ.items }
theorem pre_put (P:List It) (σ:RdS) (op:Int):putR (pre P σ) op=pre P (putR σ op):=by simp [putR,pre]
theorem pre_join (P:List It) (σ:RdS):joinR (pre P σ)=pre P (joinR σ):=by
 unfold joinR
 show (if σ.atoms=2 then _ else _)=_
 by_cases h:σ.atoms=2
 .rw [if_pos h,if_pos h]; simp [putR,pre]
 .rw [if_neg h,if_neg h]
theorem pre_add (P:List It) (σ:RdS) (l:List Rg):addClassR (pre P σ) l=pre P (addClassR σ l):=by
 unfold addClassR
 rw [pre_join]
 simp [pre]
theorem pre_end (P:List It) (σ:RdS):endR (pre P σ)=(endR σ).map (pre P):=by
 unfold endR
 rw [pre_join]
 show (if σ.atoms=0 then _ else _)=_
 by_cases h:σ.atoms=0
 .rw [if_pos h,if_pos h]; rfl
 .rw [if_neg h,if_neg h]
  show some { (if (joinR σ).parted=true then putR (pre P (joinR σ)) 3 else pre P (joinR σ)) with parted:=true,atoms:=0 }=_
  by_cases hp:(joinR σ).parted=true
  .simp only [if_pos hp,pre_put]; rfl
  .simp only [if_neg hp]; rfl
theorem pre_rep (P:List It) (σ:RdS) (op:Int):repeatR (pre P σ) op=(repeatR σ op).map (pre P):=by
 unfold repeatR
 show (if σ.atoms=0 then _ else _)=_
 by_cases h:σ.atoms=0
 .rw [if_pos h,if_pos h]; rfl
 .rw [if_neg h,if_neg h,pre_put]; rfl
theorem pre_open (P:List It) (σ:RdS):openR (pre P σ)=(openR σ).map (pre P):=by
 unfold openR
 rw [pre_join]
 show (if σ.outer.length<12 then _ else _)=_
 by_cases h:σ.outer.length<12
 .rw [if_pos h,if_pos h]; rfl
 .rw [if_neg h,if_neg h]; rfl
theorem pre_close (P:List It) (σ:RdS):closeR (pre P σ)=(closeR σ).map (pre P):=by
 unfold closeR
 rw [pre_end]
 show (match σ.outer.getLast? with | none=>none | some g=>_)=_
 cases σ.outer.getLast? with
 | none=>rfl
 | some g =>
   cases endR σ with
   | none=>rfl
   | some τ=>rfl
theorem pre_openC (P:List It) (σ:RdS):openC (pre P σ)=(openC σ).map (pre P):=by
 unfold openC
 show (if σ.outer.length<12 then _ else _)=_
 by_cases h:σ.outer.length<12
 .rw [if_pos h,if_pos h]; rfl
 .rw [if_neg h,if_neg h]; rfl
theorem pre_take (P:List It) (σ:RdS) (c:Int) (e:Bool):takeR (pre P σ) c e=(takeR σ c e).map (pre P):=by
 obtain ⟨items,outer,b,a,cls⟩:=σ
 cases cls with
 | some x =>
   obtain ⟨l,pl⟩:=x
   show inClassR _ l pl c e=(inClassR _ l pl c e).map _
   unfold inClassR
   split
   .cases addC l pl c<;>rfl
   .split
    .split<;>rfl
    .split
     .split
      .rw [pre_add]; rfl
      .rfl
     .rfl
 | none =>
   show (if standsB c e marksB=true then _ else _)=Option.map _ (if standsB c e marksB=true then _ else _)
   split
   .rw [pre_add]; rfl
   .unfold markR
    split
    .exact pre_open P _
    split
    .exact pre_close P _
    split
    .exact pre_openC P _
    split
    .rw [pre_add]; rfl
    split
    .exact pre_end P _
    split
    .exact pre_rep P _ _
    split
    .exact pre_rep P _ _
    split
    .exact pre_rep P _ _
    .rfl
theorem pre_fold (P:List It):∀ (l:List (Int × Bool)) (σ:RdS),foldT (pre P σ) l=(foldT σ l).map (pre P)
 | [],σ=>rfl
 | (c,e) :: l,σ=>by
  simp only [foldT,pre_take]
  cases takeR σ c e with
  | none=>rfl
  | some τ=>exact pre_fold P l τ
def Go1 (ls:List (Int × Bool)) (b:Bool) (a:Int):Prop:=∃ I b' a',(a'=1\/a'=2)/\foldT ⟨[],[],b,a,none⟩ ls=some ⟨I,[],b',a',none⟩/\∀ g,foldT ⟨[],[g],b,a,none⟩ ls=some ⟨I,[g],b',a',none⟩
def AdvE (l:List Int):Prop:=∃ ls,(∀ r,letL (l++r) false=ls++letL r false)/\∀ b a,(a=0\/a=1\/a=2)->Go1 ls b a
def SufE (l:List Int):Prop:=∃ ls,(∀ r,letL (l++r) false=ls++letL r false)/\∀ b a,(a=1\/a=2)->Go1 ls b a
theorem go_app {ls ms:List (Int × Bool)} {b:Bool} {a:Int} (h:Go1 ls b a) (k:∀ b a,(a=1\/a=2)->Go1 ms b a):Go1 (ls++ms) b a:=by
 obtain ⟨I,b1,a1,h1,h2,h3⟩:=h
 obtain ⟨J,b2,a2,k1,k2,k3⟩:=k b1 a1 h1
 refine ⟨I++J,b2,a2,k1,?_,fun g=>?_⟩
 .rw [foldT_app,h2]
  have:=pre_fold I ms ⟨[],[],b1,a1,none⟩
  rw [k2] at this
  simpa [pre] using this
 .rw [foldT_app,h3 g]
  have:=pre_fold I ms ⟨[],[g],b1,a1,none⟩
  rw [k3 g] at this
  simpa [pre] using this
theorem AdvE.suf {l m:List Int} (h:AdvE l) (k:SufE m):AdvE (l++m):=by
 obtain ⟨ls,h1,h2⟩:=h
 obtain ⟨ms,k1,k2⟩:=k
 exact ⟨ls++ms,fun r=>by rw [List.append_assoc,h1,k1,List.append_assoc],fun b a ha=>go_app (h2 b a ha) k2⟩
theorem AdvE.toSuf {l:List Int} (h:AdvE l):SufE l:=by
 obtain ⟨ls,h1,h2⟩:=h
 exact ⟨ls,h1,fun b a ha=>h2 b a (.inr ha)⟩
theorem SufE.nil:SufE []:=⟨[],fun r=>rfl,fun b a ha=>⟨[],b,a,ha,rfl,fun g=>rfl⟩⟩
theorem ad3 {l:List Int} {ls:List (Int × Bool)} (hl:∀ r,letL (l++r) false=ls++letL r false) (h0:∀ b,Go1 ls b 0) (h1:∀ b,Go1 ls b 1) (h2:∀ b,Go1 ls b 2):AdvE l :=
 ⟨ls,hl,fun b a ha=>by
  rcases ha with rfl | rfl | rfl
  .exact h0 b
  .exact h1 b
  .exact h2 b⟩
theorem su2 {l:List Int} {ls:List (Int × Bool)} (hl:∀ r,letL (l++r) false=ls++letL r false) (h1:∀ b,Go1 ls b 1) (h2:∀ b,Go1 ls b 2):SufE l :=
 ⟨ls,hl,fun b a ha=>by
  rcases ha with rfl | rfl
  .exact h1 b
  .exact h2 b⟩
theorem ade_a:AdvE [97]:=ad3 (ls:=[(97,false)]) (fun r=>rfl) (fun b=>⟨_,_,_,.inl rfl,rfl,fun g=>rfl⟩) (fun b=>⟨_,_,_,.inr rfl,rfl,fun g=>rfl⟩) (fun b=>⟨_,_,_,.inr rfl,rfl,fun g=>rfl⟩)
theorem ade_b:AdvE [98]:=ad3 (ls:=[(98,false)]) (fun r=>rfl) (fun b=>⟨_,_,_,.inl rfl,rfl,fun g=>rfl⟩) (fun b=>⟨_,_,_,.inr rfl,rfl,fun g=>rfl⟩) (fun b=>⟨_,_,_,.inr rfl,rfl,fun g=>rfl⟩)
theorem ade_c1:AdvE [91,97,98,93]:=ad3 (ls:=[(91,false),(97,false),(98,false),(93,false)]) (fun r=>rfl) (fun b=>⟨_,_,_,.inl rfl,rfl,fun g=>rfl⟩) (fun b=>⟨_,_,_,.inr rfl,rfl,fun g=>rfl⟩) (fun b=>⟨_,_,_,.inr rfl,rfl,fun g=>rfl⟩)
theorem ade_ab:AdvE [97,98]:=ad3 (ls:=[(97,false),(98,false)]) (fun r=>rfl) (fun b=>⟨_,_,_,.inr rfl,rfl,fun g=>rfl⟩) (fun b=>⟨_,_,_,.inr rfl,rfl,fun g=>rfl⟩) (fun b=>⟨_,_,_,.inr rfl,rfl,fun g=>rfl⟩)
theorem ade_g1:AdvE [40,97,124,98,41]:=ad3 (ls:=[(40,false),(97,false),(124,false),(98,false),(41,false)]) (fun r=>rfl) (fun b=>⟨_,_,_,.inl rfl,rfl,fun g=>rfl⟩) (fun b=>⟨_,_,_,.inr rfl,rfl,fun g=>rfl⟩) (fun b=>⟨_,_,_,.inr rfl,rfl,fun g=>rfl⟩)
theorem ade_c2:AdvE [91,97,45,99,48,45,49,93]:=ad3 (ls:=[(91,false),(97,false),(45,false),(99,false),(48,false),(45,false),(49,false),(93,false)]) (fun r=>rfl) (fun b=>⟨_,_,_,.inl rfl,rfl,fun g=>rfl⟩) (fun b=>⟨_,_,_,.inr rfl,rfl,fun g=>rfl⟩) (fun b=>⟨_,_,_,.inr rfl,rfl,fun g=>rfl⟩)
theorem ade_g2:AdvE [40,97,98,124,97,41]:=ad3 (ls:=[(40,false),(97,false),(98,false),(124,false),(97,false),(41,false)]) (fun r=>rfl) (fun b=>⟨_,_,_,.inl rfl,rfl,fun g=>rfl⟩) (fun b=>⟨_,_,_,.inr rfl,rfl,fun g=>rfl⟩) (fun b=>⟨_,_,_,.inr rfl,rfl,fun g=>rfl⟩)
theorem ade_dot:AdvE [46]:=ad3 (ls:=[(46,false)]) (fun r=>rfl) (fun b=>⟨_,_,_,.inl rfl,rfl,fun g=>rfl⟩) (fun b=>⟨_,_,_,.inr rfl,rfl,fun g=>rfl⟩) (fun b=>⟨_,_,_,.inr rfl,rfl,fun g=>rfl⟩)
theorem ade_plus:AdvE [92,43]:=ad3 (ls:=[(43,true)]) (fun r=>rfl) (fun b=>⟨_,_,_,.inl rfl,rfl,fun g=>rfl⟩) (fun b=>⟨_,_,_,.inr rfl,rfl,fun g=>rfl⟩) (fun b=>⟨_,_,_,.inr rfl,rfl,fun g=>rfl⟩)
theorem sue_star:SufE [42]:=su2 (ls:=[(42,false)]) (fun r=>rfl) (fun b=>⟨_,_,_,.inl rfl,rfl,fun g=>rfl⟩) (fun b=>⟨_,_,_,.inr rfl,rfl,fun g=>rfl⟩)
theorem sue_plus:SufE [43]:=su2 (ls:=[(43,false)]) (fun r=>rfl) (fun b=>⟨_,_,_,.inl rfl,rfl,fun g=>rfl⟩) (fun b=>⟨_,_,_,.inr rfl,rfl,fun g=>rfl⟩)
theorem sue_may:SufE [63]:=su2 (ls:=[(63,false)]) (fun r=>rfl) (fun b=>⟨_,_,_,.inl rfl,rfl,fun g=>rfl⟩) (fun b=>⟨_,_,_,.inr rfl,rfl,fun g=>rfl⟩)
theorem sue_or1:SufE [124,98]:=su2 (ls:=[(124,false),(98,false)]) (fun r=>rfl) (fun b=>by cases b<;>exact ⟨_,_,_,.inl rfl,rfl,fun g=>rfl⟩) (fun b=>by cases b<;>exact ⟨_,_,_,.inl rfl,rfl,fun g=>rfl⟩)
theorem sue_or2:SufE [124,98,97]:=su2 (ls:=[(124,false),(98,false),(97,false)]) (fun r=>rfl) (fun b=>by cases b<;>exact ⟨_,_,_,.inr rfl,rfl,fun g=>rfl⟩) (fun b=>by cases b<;>exact ⟨_,_,_,.inr rfl,rfl,fun g=>rfl⟩)
theorem sue_or3:SufE [124,99,43]:=su2 (ls:=[(124,false),(99,false),(43,false)]) (fun r=>rfl) (fun b=>by cases b<;>exact ⟨_,_,_,.inl rfl,rfl,fun g=>rfl⟩) (fun b=>by cases b<;>exact ⟨_,_,_,.inl rfl,rfl,fun g=>rfl⟩)
def fins (I:List It) (b:Bool) (a:Int):List It:=(if a=2 then I++[(2,[])] else I)++(if b=true then [(3,[])] else [])
theorem end_is {I:List It} {O:List (Bool × Int)} {b:Bool} {a:Int} (h:a=1\/a=2):endR ⟨I,O,b,a,none⟩=some ⟨fins I b a,O,true,0,none⟩:=by
 rcases h with rfl | rfl<;>cases b<;>simp [endR,joinR,putR,fins]
theorem hide2 {H:KH} {n1 n2:Nat} {A B:Ent} (h1:H n1=none) (h2:H n2=none):hideK ((H.new n1 A).new n2 B) [n2,n1]=H:=by
 funext k
 simp only [hideK,KH.del,KH.new]
 by_cases e2:k=n2
 .subst e2; simp [h2]
 .by_cases e1:k=n1
  .subst e1; simp [e2,h1]
  .simp [e1,e2]
theorem back2 {H K:KH} {n1 n2:Nat} {A B:Ent} (hn:n1≠n2):backK ((H.new n1 A).new n2 B) K [n2,n1]=(K.new n1 A).new n2 B:=by
 funext k
 simp only [backK,KH.new]
 by_cases e2:k=n2
 .subst e2; simp
 .by_cases e1:k=n1
  .subst e1; simp [e2,hn]
  .simp [e1,e2]
theorem new_comm {H:KH} {a b:Nat} {x y:Ent} (h:a≠b):(H.new a x).new b y=(H.new b y).new a x:=by
 funext k
 simp only [KH.new]
 by_cases e1:k=a
 .subst e1; simp [h]
 .by_cases e2:k=b
  .subst e2; simp [e1]
  .simp [e1,e2]
theorem PK.more {K H:KH} {p n:Nat} {e':Ent} (h:PK K p H) (hn:H n=none):PK (K.new n e') p (H.new n e'):=by
 obtain ⟨h1,e,a,m,c,j,rfl,h2,h3,h4,h5,h6⟩:=h
 have hnp:n≠p:=fun x=>by subst x; simp [KH.new] at hn
 have hKn:K n=none:=by simpa [KH.new,hnp] using hn
 refine ⟨by simp only [KH.new]; rw [if_neg (Ne.symm hnp)]; exact h1,e,a,m,c,j,new_comm (Ne.symm hnp),h2,h3,h4,h5,h6.mono (Le.new hKn)⟩
theorem litAt {H:KH} {n j:Nat} {cs:List Value} {v:Value} (h:H n=some (mkEnt cs 0)) (hj:cs[j]? = some v):ld H ⟨n,0+j*1,none⟩ [v]:=by
 refine ⟨rfl,_,h,rd_some rfl fun i w hw=>?_⟩
 match i,hw with
 | 0,hw =>
   have:v=w:=by simpa using hw
   subst this
   simp only [mkEnt,tget_wr_nil]
   simpa using hj
 | i+1,hw=>simp at hw
abbrev atomsV:List Value:=[.string (ByteArray.mk #[97]),.string (ByteArray.mk #[98]),.string (ByteArray.mk #[91,97,98,93]),.string (ByteArray.mk #[97,98]),.string (ByteArray.mk #[40,97,124,98,41]),.string (ByteArray.mk #[91,97,45,99,48,45,49,93]),.string (ByteArray.mk #[40,97,98,124,97,41]),.string (ByteArray.mk #[46]),.string (ByteArray.mk #[92,43])]
abbrev sufsV:List Value:=[.string (ByteArray.mk #[]),.string (ByteArray.mk #[]),.string (ByteArray.mk #[42]),.string (ByteArray.mk #[43]),.string (ByteArray.mk #[63])]
abbrev orsV:List Value:=[.string (ByteArray.mk #[98]),.string (ByteArray.mk #[98,97]),.string (ByteArray.mk #[99,43])]
def Adv2 (l:List Int):Prop:=Adv l/\AdvE l
def Suf2 (l:List Int):Prop:=Suf l/\SufE l
theorem Adv2.suf {l m:List Int} (h:Adv2 l) (k:Suf2 m):Adv2 (l++m):=⟨h.1.suf k.1,h.2.suf k.2⟩
theorem Adv2.toSuf {l:List Int} (h:Adv2 l):Suf2 l:=⟨h.1.toSuf,h.2.toSuf⟩
theorem atom_at {x:Int} (h0:0<=x) (h1:x<9):∃ s:ByteArray,atomsV[x.toNat]? = some (.string s)/\Adv2 (bytesI s)/\1<=s.size/\s.size<=8:=by
 have:x.toNat=0\/x.toNat=1\/x.toNat=2\/x.toNat=3\/x.toNat=4\/x.toNat=5\/x.toNat=6\/x.toNat=7\/x.toNat=8:=by omega
 rcases this with q | q | q | q | q | q | q | q | q<;>rw [q]
 .exact ⟨_,rfl,⟨adv_a,ade_a⟩,by decide,by decide⟩
 .exact ⟨_,rfl,⟨adv_b,ade_b⟩,by decide,by decide⟩
 .exact ⟨_,rfl,⟨adv_c1,ade_c1⟩,by decide,by decide⟩
 .exact ⟨_,rfl,⟨adv_ab,ade_ab⟩,by decide,by decide⟩
 .exact ⟨_,rfl,⟨adv_g1,ade_g1⟩,by decide,by decide⟩
 .exact ⟨_,rfl,⟨adv_c2,ade_c2⟩,by decide,by decide⟩
 .exact ⟨_,rfl,⟨adv_g2,ade_g2⟩,by decide,by decide⟩
 .exact ⟨_,rfl,⟨adv_dot,ade_dot⟩,by decide,by decide⟩
 .exact ⟨_,rfl,⟨adv_plus,ade_plus⟩,by decide,by decide⟩
theorem suf_at {x:Int} (h0:0<=x) (h1:x<5):∃ s:ByteArray,sufsV[x.toNat]? = some (.string s)/\Suf2 (bytesI s)/\s.size<=1:=by
 have:x.toNat=0\/x.toNat=1\/x.toNat=2\/x.toNat=3\/x.toNat=4:=by omega
 rcases this with q | q | q | q | q<;>rw [q]
 .exact ⟨_,rfl,⟨Suf.nil,SufE.nil⟩,by decide⟩
 .exact ⟨_,rfl,⟨Suf.nil,SufE.nil⟩,by decide⟩
 .exact ⟨_,rfl,⟨suf_star,sue_star⟩,by decide⟩
 .exact ⟨_,rfl,⟨suf_plus,sue_plus⟩,by decide⟩
 .exact ⟨_,rfl,⟨suf_may,sue_may⟩,by decide⟩
theorem or_at {x:Int} (h0:0<=x) (h1:x<3):∃ s:ByteArray,orsV[x.toNat]? = some (.string s)/\Suf2 (124 :: bytesI s)/\s.size<=2:=by
 have:x.toNat=0\/x.toNat=1\/x.toNat=2:=by omega
 rcases this with q | q | q<;>rw [q]
 .exact ⟨_,rfl,⟨suf_or1,sue_or1⟩,by decide⟩
 .exact ⟨_,rfl,⟨suf_or2,sue_or2⟩,by decide⟩
 .exact ⟨_,rfl,⟨suf_or3,sue_or3⟩,by decide⟩
theorem size_app (a b:ByteArray):(a++b).size=a.size+b.size:=ByteArray.size_append
end Go.Ew
namespace Go.Proofs.YtfhjkkbaghanhaaGreat
open Go.Ev Go.Ew
namespace Va
section
variable (ok : EnvOk (env Tryz.prog))
include ok
theorem c19 {K H:KH} {p:Nat} {Q:PQ} (hp:PK K p H) (hq:∀ s K' H',(∃ l,parseR s=some l)->Adv2 (bytesI s)->1<=s.size/\s.size<=24->Le K K'->PK K' p H'->Q (.string s) H'):Does (env Tryz.prog) 19 [.pointer (some ⟨p,0,none⟩)] H Q:=by
 refine fn19 ok (c18 ok hp (by omega) (by omega) fun x3 H2 hx0 hx1 hp2=>⟨_,rfl,?_⟩)
 have hw:IntKind.wrap .i64 (x3+1)=x3+1:=wrap64 (by omega) (by omega)
 unfold vc19_L2
 have fin:∀ {s:ByteArray} {K' H':KH},Adv2 (bytesI s)->1<=s.size->Le K K'->PK K' p H'->(decide ((24:Int)<((s.size:Nat):Int))=true->Q (.string (ByteArray.mk #[97])) H')/\(decide ((24:Int)<((s.size:Nat):Int))=false->Q (.string s) H'):=by
  intro s K' H' ha h1 hl hk
  refine ⟨fun _=>?_,fun h=>?_⟩
  .have hA:Adv2 (bytesI (ByteArray.mk #[97])):=⟨adv_a,ade_a⟩
   exact hq _ K' H' (adv_parse hA.1 (by decide) (by decide)) hA ⟨by decide,by decide⟩ hl hk
  .have h:=of_decide_eq_false h
   exact hq _ K' H' (adv_parse ha.1 h1 (by omega)) ha ⟨h1,by omega⟩ hl hk
 refine ⟨fun m n4 n5 s6 x7 H8=>n4=p/\n5=0/\x7=(m:Nat)/\m<=3/\s6.size<=9*(3-m)/\∃ K',PK K' p H8/\Le K K'/\((1<=m/\s6=ByteArray.mk #[])\/(Adv2 (bytesI s6)/\1<=s6.size)),⟨(x3+1).toNat,rfl,rfl,rfl,by rw [hw]; omega,by omega,by show (0:Nat)<=_; omega,K,hp2,Le.refl _,.inl ⟨by omega,rfl⟩⟩,?_⟩
 rintro m n4 n5 s6 x7 H8 ⟨rfl,rfl,rfl,hm,hsz,K',hpk,hle,hs⟩
 refine ⟨fun hlt=>⟨trivial,fun n1 hn1 n2 hn2=>?_⟩,fun hge=>?_⟩
 .have hlt:0<m:=by have:=of_decide_eq_true hlt; omega
  have hn12:n1≠n2:=fun x=>by subst x; simp [KH.new] at hn2
  have hH2:H8 n2=none:=by simpa [KH.new,Ne.symm hn12] using hn2
  have hb:=fun K0:KH=>back2 (H:=H8) (K:=K0) (A:=mkEnt atomsV 0) (B:=mkEnt sufsV 0) hn12
  rw [hide2 hn1 hH2]
  refine c18 ok hpk (by omega) (by omega) fun x5 H4 h50 h51 hp4=>⟨_,rfl,fun a2 a1=>⟨⟨rfl,rfl,trivial⟩,⟨by omega,by omega⟩,n1,0,rfl,?_⟩⟩
  obtain ⟨s8,t1,t2,t3,t4⟩:=atom_at h50 h51
  have hb2:=fun K0:KH=>back2 (H:=H4) (K:=K0) (A:=mkEnt atomsV 0) (B:=mkEnt sufsV 0) hn12
  rw [hb H4,hide2 a1 a2]
  have l1:∀ K0:KH,ld ((K0.new n1 (mkEnt atomsV 0)).new n2 (mkEnt sufsV 0)) ⟨n1,0+x5.toNat*1,none⟩ [.string s8]:=fun K0=>litAt (cs:=atomsV) (by simp [KH.new,hn12]) t1
  refine ⟨s8,l1 H4,by omega,c18 ok hp4 (by omega) (by omega) fun x11 H10 h110 h111 hp10=>⟨_,rfl,fun b2 b1=>?_⟩⟩
  rw [hb2 H10]
  obtain ⟨s17,u1,u2,u3⟩:=suf_at h110 h111
  have l2:ld ((H10.new n1 (mkEnt atomsV 0)).new n2 (mkEnt sufsV 0)) ⟨n2,0+x11.toNat*1,none⟩ [.string s17]:=litAt (cs:=sufsV) (by simp [KH.new]) u1
  have hsz2:=size_app s6 s8
  have hsz3:=size_app (s6++s8) s17
  refine ⟨⟨rfl,⟨⟨by omega,by omega⟩,n1,0,rfl,rfl⟩,⟨s8,l1 H10,rfl⟩,⟨by omega,rfl⟩,trivial⟩,⟨by omega,by omega⟩,n2,0,rfl,s17,l2,by omega,m-1,by omega,rfl,rfl,rfl,by rw [wrap64 (by omega) (by omega)]; omega,by omega,by omega,(K'.new n1 (mkEnt atomsV 0)).new n2 (mkEnt sufsV 0),(hp10.more b1).more (by simp [KH.new,Ne.symm hn12,b2]),?_,.inr ⟨?_,by omega⟩⟩
  .have k1:K' n1=none:=hpk.le.none hn1
   have k2:K' n2=none:=hpk.le.none hH2
   exact (hle.trans (Le.new k1)).trans (Le.new (by simp [KH.new,Ne.symm hn12,k2]))
  .rw [bytes_app,bytes_app]
   rcases hs with ⟨_,rfl⟩ | ⟨hs,_⟩
   .have:bytesI (ByteArray.mk #[])=[]:=rfl
    rw [this,List.nil_append]
    exact t2.suf u2
   .exact (hs.suf t2.toSuf).suf u2
 .have hm0:m=0:=by have:=of_decide_eq_false hge; omega
  subst hm0
  have hs:Adv2 (bytesI s6)/\1<=s6.size:=by
   rcases hs with ⟨h,_⟩ | h
   .omega
   .exact h
  refine c18 ok hpk (by omega) (by omega) fun x3 H3 h30 h31 hp3=>⟨_,rfl,fun h1=>⟨fun h2=>⟨?_,fun nA hnA=>?_⟩,fun h2=>fin hs.1 hs.2 hle hp3⟩,fun h1=>fin hs.1 hs.2 hle hp3⟩
  .have:(ByteArray.mk #[124]).size=1:=rfl
   omega
  .have hp4:=hp3.more (e':=mkEnt orsV 0) hnA
   have k4:K' nA=none:=hp3.le.none hnA
   have hat:∀ H6:KH,PK (K'.new nA (mkEnt orsV 0)) n4 H6->H6 nA=some (mkEnt orsV 0):=fun H6 h=>h.le _ _ (if_pos rfl)
   refine c18 ok hp4 (by omega) (by omega) fun x7 H6 h70 h71 hp6=>⟨_,rfl,⟨by omega,by omega⟩,nA,0,rfl,?_⟩
   obtain ⟨s10,t1,t2,t3⟩:=or_at h70 h71
   have e1:(ByteArray.mk #[124]).size=1:=rfl
   have hsz2:=size_app s6 (ByteArray.mk #[124])
   have hsz3:=size_app (s6++ByteArray.mk #[124]) s10
   refine ⟨s10,litAt (hat H6 hp6) t1,by omega,fin ?_ (by omega) (hle.trans (Le.new k4)) hp6⟩
   rw [bytes_app,bytes_app,List.append_assoc]
   exact hs.1.suf t2
end
end Va
end Go.Proofs.YtfhjkkbaghanhaaGreat
namespace Go.Ew
open Go.Ev Go.Deep
theorem koldAt {H:KH} {a:OA} {n:Nat} {cs:List Value} (h:kold H 2 a n=some cs) (hn:0<n):∃ b o,a=some ⟨b,o,none⟩/\∀ j v,cs[j]? = some v->ld H ⟨b,o+j,none⟩ [v]:=by
 have hnb:Nat.beq n 0=false:=by
  cases hq:Nat.beq n 0 with
  | false=>rfl
  | true=>have:=Nat.eq_of_beq_eq_true hq; omega
 cases a with
 | none=>unfold kold at h; rw [hnb] at h; cases h
 | some ad =>
   obtain ⟨b,o,sp⟩:=ad
   cases sp with
   | some x=>simp only [kold] at h; rw [hnb] at h; cases h
   | none =>
     obtain ⟨e,he,hr⟩:=kold_some.1 h
     refine ⟨b,o,rfl,fun j v hv=>⟨rfl,e,he,rd_some rfl fun i w hw=>?_⟩⟩
     match i,hw with
     | 0,hw =>
       have:v=w:=by simpa using hw
       subst this
       exact rd_get hr j v hv
     | i+1,hw=>simp at hw
theorem it_get {X:KH}:∀ {l:List It} {cs:List Value} {k:Nat} {op:Int} {rg:List Rg},ItC X l cs->l[k]? = some (op,rg)->∃ a c,cs[k*2]? = some (.int .i64 op)/\cs[k*2+1]? = some (.slice a rg.length c)/\kold X 2 a rg.length=some (rgC rg)
 | [],cs,k,op,rg,h,hk=>by simp at hk
 | (op',l') :: r,cs,0,op,rg,⟨a,c,ds,h1,h2,h3⟩,hk=>by
  have hk:(op',l')=(op,rg):=by simpa using hk
  cases hk
  subst h1
  exact ⟨a,c,rfl,rfl,h2⟩
 | (op',l') :: r,cs,k+1,op,rg,⟨a,c,ds,h1,h2,h3⟩,hk=>by
  obtain ⟨a',c',g1,g2,g3⟩:=it_get (k:=k) h3 (by simpa using hk)
  subst h1
  refine ⟨a',c',?_,?_,g3⟩
  .rw [show (k+1)*2=k*2+2 by omega]; exact g1
  .rw [show (k+1)*2+1=k*2+1+2 by omega]; exact g2
theorem rg_get:∀ {l:List Rg} {j:Nat} {r:Rg},l[j]? = some r->(rgC l)[j*2]? = some (.int .u8 r.1)/\(rgC l)[j*2+1]? = some (.int .u8 r.2)
 | [],j,r,h=>by simp at h
 | x :: l,0,r,h=>by
   have:x=r:=by simpa using h
   subst this; exact ⟨rfl,rfl⟩
 | x :: l,j+1,r,h=>by
   obtain ⟨g1,g2⟩:=rg_get (j:=j) (l:=l) (by simpa using h)
   refine ⟨?_,?_⟩
   .rw [show (j+1)*2=j*2+2 by omega]; exact g1
   .rw [show (j+1)*2+1=j*2+1+2 by omega]; exact g2
def Wl (B:Nat) (σ:RdS):Prop:=∀ i∈σ.items,i.2.length<=B
theorem wl_app {B:Nat} {l:List It} {i:It} (h:∀ i∈l,i.2.length<=B) (hi:i.2.length<=B):∀ j∈l++[i],j.2.length<=B:=fun j hj=>by
 rcases List.mem_append.1 hj with hj | hj
 .exact h j hj
 .have:j=i:=by simpa using hj
  subst this; exact hi
theorem wl_join {B:Nat} {σ:RdS} (h:Wl B σ):Wl B (joinR σ):=by
 unfold joinR
 split
 .exact wl_app h (by simp)
 .exact h
theorem wl_add {B:Nat} {σ:RdS} {l:List Rg} (h:Wl B σ) (hl:l.length<=B):Wl B (addClassR σ l):=wl_app (wl_join h) hl
theorem wl_end {B:Nat} {σ τ:RdS} (h:Wl B σ) (he:endR σ=some τ):Wl B τ:=by
 unfold endR at he
 split at he
 .cases he
 .cases he
  show ∀ i∈(if (joinR σ).parted=true then putR (joinR σ) 3 else joinR σ).items,_
  split
  .exact wl_app (wl_join h) (by simp)
  .exact wl_join h
theorem wl_take {B n:Nat} {σ τ:RdS} {c:Int} {e:Bool} (h:Wl B σ) (hw:Wf n σ) (hn:n<=B) (hB:1<=B) (ht:takeR σ c e=some τ):Wl B τ:=by
 unfold takeR at ht
 split at ht
 .rename_i l pl hc
  have hl:=(hw.2 l pl hc).1
  unfold inClassR at ht
  split at ht
  .split at ht
   .cases ht; exact h
   .cases ht
  .split at ht
   .split at ht
    .cases ht; exact h
    .cases ht
   .split at ht
    .split at ht
     .cases ht; exact wl_add h (by omega)
     .cases ht
    .cases ht
 .split at ht
  .cases ht; exact wl_add h (by simpa using hB)
  .unfold markR at ht
   split at ht
   .unfold openR at ht
    split at ht
    .cases ht; exact wl_join h
    .cases ht
   split at ht
   .unfold closeR at ht
    split at ht
    .cases ht
    .split at ht
     .cases ht
     .rename_i he
      cases ht
      have:=wl_end h he
      exact this
   split at ht
   .unfold openC at ht
    split at ht
    .cases ht; exact h
    .cases ht
   split at ht
   .cases ht; exact wl_add h (by simpa using hB)
   split at ht
   .exact wl_end h ht
   have rep:∀ op,repeatR σ op=some τ->Wl B τ:=fun op ht=>by
    unfold repeatR at ht
    split at ht
    .cases ht
    .cases ht; exact wl_app h (by simp)
   split at ht
   .exact rep _ ht
   split at ht
   .exact rep _ ht
   split at ht
   .exact rep _ ht
   .cases ht
theorem wl_fold {B:Nat} (hB:1<=B):∀ {l:List (Int × Bool)} {n:Nat} {σ τ:RdS},Wl B σ->Wf n σ->n+l.length<=B->foldT σ l=some τ->Wl B τ/\Wf (n+l.length) τ
 | [],n,σ,τ,h,hw,hn,hf=>by cases hf; exact ⟨h,hw⟩
 | (c,e) :: l,n,σ,τ,h,hw,hn,hf=>by
  rw [foldT] at hf
  simp only [List.length_cons] at hn ⊢
  cases ht:takeR σ c e with
  | none=>rw [ht] at hf; cases hf
  | some ρ =>
    rw [ht] at hf
    have:=wl_fold hB (wl_take h hw (by omega) hB ht) (take_wf hw ht) (by omega) hf
    rw [show n+(l.length+1)=n+1+l.length by omega]
    exact this
theorem parse_small {s:ByteArray} {l:List It} (h:parseR s=some l):l.length<=100/\∀ i∈l,i.2.length<=100000:=by
 unfold parseR at h
 split at h
 .cases h
 .rename_i hs
  unfold readR at h
  split at h
  .cases h
  .rename_i σ hf
   split at h
   .cases h
   .rename_i τ he
    cases h
    have hl:=let_len (bytesI s) false
    rw [bytes_len] at hl
    obtain ⟨h1,h2⟩:=wl_fold (B:=100) (n:=0) (by omega) (σ:=rd0) (fun i hi=>by cases hi) ⟨by decide,fun l pl q=>by cases q⟩ (by omega) hf
    have he2:endR σ=some τ:=by
     unfold finR at he
     split at he
     .cases he
     .split at he
      .exact he
      .cases he
    have h3:=end_len he2
    have h4:=h2.1
    refine ⟨by omega,fun i hi=>?_⟩
    have:=wl_end h1 he2 i hi
    omega
structure ItAt (H:KH) (a:OA) (k:Nat) (op:Int) (rg:List Rg) (b o:Nat) (ar:OA) (cr:Nat):Prop where
 eq:a=some ⟨b,o,none⟩
 c0:ld H ⟨b,o+k*2+0,none⟩ [.int .i64 op]
 c1:ld H ⟨b,o+k*2+1,none⟩ [.slice ar rg.length cr]
 row:kold H 2 ar rg.length=some (rgC rg)
theorem ItR.at {H:KH} {l:List It} {a:OA} (h:ItR H l a) {k:Nat} {op:Int} {rg:List Rg} (hk:l[k]? = some (op,rg)):∃ b o ar cr,ItAt H a k op rg b o ar cr:=by
 obtain ⟨cs,h1,h2⟩:=h
 have hlt:0<l.length:=by
  rcases Nat.lt_or_ge k l.length with q | q
  .omega
  .rw [List.getElem?_eq_none q] at hk; cases hk
 obtain ⟨b,o,rfl,h3⟩:=koldAt h1 hlt
 obtain ⟨ar,cr,g1,g2,g3⟩:=it_get h2 hk
 exact ⟨b,o,ar,cr,rfl,h3 _ _ g1,by rw [Nat.add_assoc]; exact h3 _ _ g2,g3⟩
structure P3 (X H:KH) (p:Nat) (s:ByteArray) (i:Nat) (b:Bool):Prop where
 le:Le X H
 xp:X p=none
 ex:∃ e,H p=some e/\wrB e=true/\rd e.cells 0 3=some [.string s,.int .i64 (i:Nat),.bool b]
section
variable {X H : KH} {p : Nat} {s : ByteArray} {i : Nat} {b : Bool}
theorem P3.all (h:P3 X H p s i b):ld H ⟨p,0,none⟩ [.string s,.int .i64 (i:Nat),.bool b]:=by
 obtain ⟨e,h1,h2,h3⟩:=h.ex
 exact ⟨rfl,e,h1,h3⟩
theorem P3.c0 (h:P3 X H p s i b):ld H ⟨p,0,none⟩ [.string s]:=by have:=ldSub h.all 0 1 (by simp); simpa using this
theorem P3.c1 (h:P3 X H p s i b):ld H ⟨p,1,none⟩ [.int .i64 (i:Nat)]:=by have:=ldSub h.all 1 1 (by simp); simpa using this
theorem P3.c2 (h:P3 X H p s i b):ld H ⟨p,2,none⟩ [.bool b]:=by have:=ldSub h.all 2 1 (by simp); simpa using this
theorem P3.may (h:P3 X H p s i b):KH.may H p:=by
 obtain ⟨e,h1,h2,h3⟩:=h.ex
 exact ⟨e,h1,h2⟩
theorem P3.setAt (h:P3 X H p s i b) (j:Nat):P3 X (H.put ⟨p,1,none⟩ [.int .i64 (j:Nat)]) p s j b:=by
 obtain ⟨e,h1,h2,h3⟩:=h.ex
 refine ⟨fun k e' q=>put_ne (fun x=>by rw [x,h.xp] at q; cases q) (h.le k e' q),h.xp,⟨wr e.cells 1 [.int .i64 (j:Nat)],e.len,e.unk,none⟩,by simp only [KH.put,if_true,h1,Option.map_some],wrB_keep h2,?_⟩
 exact rdWr (xs:=[.string s]) (ys:=[.int .i64 (i:Nat)]) (zs:=[.bool b]) (by simpa using h3) rfl rfl
theorem P3.setBad (h:P3 X H p s i b):P3 X (H.put ⟨p,2,none⟩ [.bool true]) p s i true:=by
 obtain ⟨e,h1,h2,h3⟩:=h.ex
 refine ⟨fun k e' q=>put_ne (fun x=>by rw [x,h.xp] at q; cases q) (h.le k e' q),h.xp,⟨wr e.cells 2 [.bool true],e.len,e.unk,none⟩,by simp only [KH.put,if_true,h1,Option.map_some],wrB_keep h2,?_⟩
 exact rdWr (xs:=[.string s,.int .i64 (i:Nat)]) (ys:=[.bool b]) (zs:=[]) (by simpa using h3) rfl rfl
end
def peekM (s:ByteArray) (i:Nat):Int:=if s.size<=i then 0 else byteAt s i
def specB (c:Int) (all:ByteArray):Bool:=decide (c∈bytesI all)
def oneM (s all:ByteArray) (i:Nat):Int × Nat × Bool :=
 if peekM s i=92 then (peekM s (i+1),i+2,!(specB (peekM s (i+1)) all))
 else (peekM s i,i+1,decide (peekM s i<32)||(decide (126<peekM s i)||specB (peekM s i) all))
end Go.Ew
namespace Go.Proofs.YtfhjkkbaghanhaaGreat
open Go.Ev Go.Ew
namespace Va
section
variable (ok : EnvOk (env Tryz.prog))
include ok
theorem c47 {X H:KH} {p:Nat} {s:ByteArray} {i:Nat} {b:Bool} {Q:PQ} (h:P3 X H p s i b) (hq:Q (.int .u8 (peekM s i)) H):Does (env Tryz.prog) 47 [.pointer (some ⟨p,0,none⟩)] H Q:=by
 refine fn47 ok ⟨trivial,rfl,_,h.c1,rfl,s,h.c0,fun h1=>?_,fun h1=>⟨trivial,rfl,s,h.c0,rfl,_,h.c1,⟨by omega,?_⟩,?_⟩⟩
 .have h1:=of_decide_eq_true h1
  have:peekM s i=0:=if_pos (by omega)
  rw [this] at hq
  exact hq
 .have:=of_decide_eq_false h1; omega
 .have h1:=of_decide_eq_false h1
  have e0:Int.toNat ((i:Nat):Int)=i:=by omega
  have:peekM s i=byteAt s i:=if_neg (by omega)
  rw [this] at hq
  rw [e0]
  exact hq
theorem c107 {c:Int} {all:ByteArray} {H:KH} {Q:PQ} (hs:all.size<=1000) (hq:Q (.bool (specB c all)) H):Does (env Tryz.prog) 107 [.int .u8 c,.string all] H Q:=by
 refine fn107 ok ?_
 unfold vc107 vc107_L0
 refine ⟨fun m x4 s5 x6 H7=>x4=c/\s5=all/\H7=H/\∃ j:Nat,x6=j/\j<=all.size/\m=all.size-j/\specB c all=decide (c∈(bytesI all).drop j),⟨all.size,rfl,rfl,rfl,0,rfl,by omega,rfl,rfl⟩,?_⟩
 rintro m x4 s5 x6 H7 ⟨rfl,rfl,rfl,j,rfl,hj,rfl,hsp⟩
 refine ⟨fun hlt=>?_,fun hge=>?_⟩
 .have hlt:j<s5.size:=by have:=of_decide_eq_true hlt; omega
  have e0:Int.toNat ((j:Nat):Int)=j:=by omega
  rw [bytes_drop hlt] at hsp
  rw [e0]
  refine ⟨⟨by omega,by omega⟩,fun h1=>?_,fun h1=>?_⟩
  .have h1:byteAt s5 j=x4:=by simpa using h1
   rw [hsp,decide_eq_true (by rw [h1]; simp)] at hq
   exact hq
  .have h1:¬ byteAt s5 j=x4:=by simpa using h1
   refine ⟨s5.size-(j+1),by omega,rfl,rfl,rfl,j+1,by rw [wrap64 (by omega) (by omega)]; omega,by omega,rfl,?_⟩
   rw [hsp,Bool.eq_iff_iff]
   simp only [decide_eq_true_eq,List.mem_cons]
   constructor
   .rintro (q | q)
    .exact absurd q.symm h1
    .exact q
   .exact .inr
 .have hge:j=s5.size:=by have:=of_decide_eq_false hge; omega
  subst hge
  have:(bytesI s5).drop s5.size=[]:=List.drop_eq_nil_of_le (by rw [bytes_len]; exact Nat.le_refl _)
  rw [this] at hsp
  rw [hsp] at hq
  simpa using hq
theorem c95 {X H:KH} {p:Nat} {s all:ByteArray} {i:Nat} {b:Bool} {Q:PQ} (h:P3 X H p s i b) (hs:all.size<=1000) (hi:i<=1000000) (hq:∀ H',P3 X H' p s (oneM s all i).2.1 (b||(oneM s all i).2.2)->Q (.int .u8 (oneM s all i).1) H'):Does (env Tryz.prog) 95 [.pointer (some ⟨p,0,none⟩),.string all] H Q:=by
 have w1:IntKind.wrap .i64 (((i:Nat):Int)+1)=((i+1:Nat):Int):=by rw [wrap64 (by omega) (by omega)]; omega
 have w2:IntKind.wrap .i64 (((i+1:Nat):Int)+1)=((i+2:Nat):Int):=by rw [wrap64 (by omega) (by omega)]; omega
 refine fn95 ok (c47 ok h ⟨_,rfl,fun h1=>?_,fun h1=>?_⟩)
 .have h1:peekM s i=92:=by simpa using h1
  have e:oneM s all i=(peekM s (i+1),i+2,!(specB (peekM s (i+1)) all)):=if_pos h1
  rw [e] at hq
  refine ⟨rfl,_,h.c1,rfl,stOk h.c1 rfl,h.may,?_⟩
  rw [w1]
  have h2:=h.setAt (i+1)
  refine c47 ok h2 ⟨_,rfl,c107 ok hs ⟨_,rfl,fun h3=>?_,fun h3=>?_⟩⟩
  .have h3:specB (peekM s (i+1)) all=false:=by simpa using h3
   have h4:=h2.setBad
   refine ⟨rfl,stOk h2.c2 rfl,h2.may,?_⟩
   unfold vc95_J0
   refine ⟨rfl,_,h4.c1,rfl,stOk h4.c1 rfl,h4.may,?_⟩
   rw [w2]
   refine hq _ ?_
   have:=h4.setAt (i+2)
   simpa [h3] using this
  .have h3:specB (peekM s (i+1)) all=true:=by simpa using h3
   unfold vc95_J1
   refine ⟨rfl,_,h2.c1,rfl,stOk h2.c1 rfl,h2.may,?_⟩
   rw [w2]
   refine hq _ ?_
   have:=h2.setAt (i+2)
   simpa [h3] using this
 .have h1:¬ peekM s i=92:=by simpa using h1
  have e:oneM s all i=(peekM s i,i+1,decide (peekM s i<32)||(decide (126<peekM s i)||specB (peekM s i) all)):=if_neg h1
  rw [e] at hq
  have bad:(decide (peekM s i<32)||(decide (126<peekM s i)||specB (peekM s i) all))=true->vc95_J0 H p 0 Q (peekM s i):=fun hb=>by
   have h4:=h.setBad
   unfold vc95_J0
   refine ⟨rfl,_,h4.c1,rfl,stOk h4.c1 rfl,h4.may,?_⟩
   rw [w1]
   refine hq _ ?_
   have:=h4.setAt (i+1)
   rw [hb,Bool.or_true]
   exact this
  refine ⟨fun h2=>⟨rfl,stOk h.c2 rfl,h.may,bad (by rw [h2]; rfl)⟩,fun h2=>⟨fun h3=>⟨rfl,stOk h.c2 rfl,h.may,bad (by rw [h2,h3]; rfl)⟩,fun h3=>c107 ok hs ⟨_,rfl,fun h4=>⟨rfl,stOk h.c2 rfl,h.may,bad (by rw [h2,h3,h4]; rfl)⟩,fun h4=>?_⟩⟩⟩
  unfold vc95_J1
  refine ⟨rfl,_,h.c1,rfl,stOk h.c1 rfl,h.may,?_⟩
  rw [w1]
  refine hq _ ?_
  have:=h.setAt (i+1)
  rw [h2,h3,h4]
  simpa using this
end
end Va
end Go.Proofs.YtfhjkkbaghanhaaGreat
namespace Go.Ew
open Go.Ev Go.Deep
theorem peek_lt {s:ByteArray} {i:Nat} (h:peekM s i≠0):i<s.size:=by
 unfold peekM at h
 split at h
 .exact absurd rfl h
 .omega
theorem one_ok {s all:ByteArray} {i:Nat} (h0:specB 0 all=false) (h:(oneM s all i).2.2=false):(oneM s all i).2.1<=s.size/\i<(oneM s all i).2.1:=by
 unfold oneM at h ⊢
 split
 .rename_i hp
  rw [if_pos hp] at h
  have h:(!(specB (peekM s (i+1)) all))=false:=h
  have:i+1<s.size:=peek_lt fun q=>by rw [q,h0] at h; cases h
  exact ⟨by show i+2<=_; omega,by show i<i+2; omega⟩
 .rename_i hp
  rw [if_neg hp] at h
  have h:(decide (peekM s i<32)||(decide (126<peekM s i)||specB (peekM s i) all))=false:=h
  have:i<s.size:=peek_lt fun q=>by rw [q] at h; cases h
  exact ⟨by show i+1<=_; omega,by show i<i+1; omega⟩
theorem one_le (s all:ByteArray) (i:Nat):i<(oneM s all i).2.1/\(oneM s all i).2.1<=i+2:=by
 unfold oneM
 split
 .exact ⟨by show i<i+2; omega,by show i+2<=_; omega⟩
 .exact ⟨by show i<i+1; omega,by show i+1<=_; omega⟩
def stepC (s:ByteArray) (i:Nat):Rg × Nat × Bool :=
 if (oneM s clsS i).2.2=false/\peekM s (oneM s clsS i).2.1=45 then
  (((oneM s clsS i).1,(oneM s clsS ((oneM s clsS i).2.1+1)).1),(oneM s clsS ((oneM s clsS i).2.1+1)).2.1,(oneM s clsS ((oneM s clsS i).2.1+1)).2.2||decide ((oneM s clsS ((oneM s clsS i).2.1+1)).1<(oneM s clsS i).1))
 else (((oneM s clsS i).1,(oneM s clsS i).1),(oneM s clsS i).2.1,(oneM s clsS i).2.2)
theorem step_ok {s:ByteArray} {i:Nat} (h:(stepC s i).2.2=false):(stepC s i).2.1<=s.size/\i<(stepC s i).2.1:=by
 have h0:specB 0 clsS=false:=by decide +kernel
 unfold stepC at h ⊢
 split
 .rename_i hp
  rw [if_pos hp] at h
  have h:((oneM s clsS ((oneM s clsS i).2.1+1)).2.2||decide ((oneM s clsS ((oneM s clsS i).2.1+1)).1<(oneM s clsS i).1))=false:=h
  rw [Bool.or_eq_false_iff] at h
  have h1:=one_ok h0 h.1
  have h2:=one_le s clsS i
  exact ⟨h1.1,by show i<(oneM s clsS ((oneM s clsS i).2.1+1)).2.1; omega⟩
 .rename_i hp
  rw [if_neg hp] at h
  exact one_ok h0 h
theorem step_le (s:ByteArray) (i:Nat):(stepC s i).2.1<=i+5:=by
 have h1:=one_le s clsS i
 have h2:=one_le s clsS ((oneM s clsS i).2.1+1)
 unfold stepC
 split
 .show (oneM s clsS ((oneM s clsS i).2.1+1)).2.1<=_; omega
 .show (oneM s clsS i).2.1<=_; omega
def classL (s:ByteArray):Nat->List Rg->Nat->Bool->List Rg × Nat × Bool
 | 0,l,i,b=>(l,i,b)
 | f+1,l,i,b=>if b=false/\(l=[]\/peekM s i≠93) then classL s f (l++[(stepC s i).1]) (stepC s i).2.1 (stepC s i).2.2 else (l,i,b)
def measC (s:ByteArray) (i:Nat) (b:Bool):Nat:=if b=true then 0 else s.size+1-i
def Lft (s:ByteArray) (σ:RdS) (i:Nat):Option RdS:=(foldT σ (letL ((bytesI s).drop i) false)).bind finR
theorem Lft_end {s:ByteArray} {i:Nat} (h:s.size<=i) (σ:RdS):Lft s σ i=finR σ:=by
 unfold Lft
 rw [List.drop_eq_nil_of_le (by rw [bytes_len]; exact h)]
 rfl
theorem peek_byte {s:ByteArray} {i:Nat} (h:i<s.size):peekM s i=byteAt s i:=if_neg (by omega)
theorem Lft_plain {s:ByteArray} {i:Nat} (h:i<s.size) (hc:peekM s i≠92) (σ:RdS):Lft s σ i=(takeR σ (peekM s i) false).bind fun τ=>Lft s τ (i+1):=by
 unfold Lft
 rw [bytes_drop h,<- peek_byte h]
 rw [letL,if_neg (fun q=>hc q.1),foldT]
 cases takeR σ (peekM s i) false<;>rfl
theorem Lft_esc {s:ByteArray} {i:Nat} (h:i+1<s.size) (hc:peekM s i=92) (σ:RdS):Lft s σ i=(takeR σ (peekM s (i+1)) true).bind fun τ=>Lft s τ (i+2):=by
 unfold Lft
 rw [bytes_drop (by omega:i<s.size),<- peek_byte (by omega:i<s.size)]
 rw [letL,if_pos ⟨hc,rfl,by rw [bytes_drop h]; simp⟩]
 rw [bytes_drop h,<- peek_byte h]
 rw [letL,if_neg (fun q=>by cases q.2.1),foldT]
 cases takeR σ (peekM s (i+1)) true<;>rfl
theorem Lft_last {s:ByteArray} {i:Nat} (h:i+1=s.size) (hc:peekM s i=92) (σ:RdS):Lft s σ i=(takeR σ 92 false).bind finR:=by
 unfold Lft
 rw [bytes_drop (by omega:i<s.size),<- peek_byte (by omega:i<s.size)]
 rw [letL,if_neg (fun q=>q.2.2 (List.drop_eq_nil_of_le (by rw [bytes_len]; omega))),foldT,hc]
 rw [List.drop_eq_nil_of_le (by rw [bytes_len]; omega)]
 cases takeR σ 92 false<;>rfl
theorem take_outer {σ τ:RdS} {c:Int} {e:Bool} (h:takeR σ c e=some τ):σ.outer.length<=τ.outer.length+1:=by
 have hj:=join_outer σ
 have he:∀ {τ'},endR σ=some τ'->τ'.outer=σ.outer:=fun q=>end_outer q
 unfold takeR at h
 split at h
 .rename_i l pl hcl
  unfold inClassR at h
  repeat' split at h
  all_goals first | (cases h; done) | skip
  all_goals cases h
  all_goals first | (show σ.outer.length<=σ.outer.length+1; omega) | (show σ.outer.length<=(joinR σ).outer.length+1; rw [hj]; omega)
 .split at h
  .cases h
   show σ.outer.length<=(joinR σ).outer.length+1
   rw [hj]; omega
  .unfold markR at h
   repeat' split at h
   .unfold openR at h
    split at h
    .cases h
     show σ.outer.length<=((joinR σ).outer++_).length+1
     rw [hj,List.length_append]; omega
    .cases h
   .unfold closeR at h
    split at h
    .cases h
    .split at h
     .cases h
     .cases h
      show σ.outer.length<=σ.outer.dropLast.length+1
      rw [List.length_dropLast]; omega
   .unfold openC at h
    split at h
    .cases h; show σ.outer.length<=σ.outer.length+1; omega
    .cases h
   .cases h
    show σ.outer.length<=(joinR σ).outer.length+1
    rw [hj]; omega
   .rw [he h]; omega
   all_goals first | (cases h; done) | skip
   all_goals
    unfold repeatR at h
    split at h
    .cases h
    .cases h; show σ.outer.length<=σ.outer.length+1; omega
theorem fin_outer {σ τ:RdS} (h:finR σ=some τ):σ.outer=[]:=by
 unfold finR at h
 split at h
 .cases h
 .split at h
  .rename_i q; exact List.eq_nil_of_length_eq_zero q
  .cases h
theorem fold_short:∀ (l:List (Int × Bool)) (σ:RdS),l.length<σ.outer.length->(foldT σ l).bind finR=none
 | [],σ,h=>by
   show finR σ=none
   cases hf:finR σ with
   | none=>rfl
   | some τ=>rw [fin_outer hf] at h; simp at h
 | (c,e) :: r,σ,h=>by
  rw [foldT]
  cases ht:takeR σ c e with
  | none=>rfl
  | some τ =>
    have:=take_outer ht
    simp only [List.length_cons] at h
    exact fold_short r τ (by omega)
theorem Lft_short {s:ByteArray} {σ:RdS} {i:Nat} (h:s.size-i<σ.outer.length):Lft s σ i=none:=by
 refine fold_short _ σ (Nat.lt_of_le_of_lt (let_len _ _) ?_)
 rw [List.length_drop,bytes_len]; exact h
theorem spec_marks (c:Int):specB c marksS=decide (c∈marksB):=rfl
theorem spec_cls (c:Int):specB c clsS=decide (c∈clsB):=rfl
theorem one_good {s all:ByteArray} {sp:List Int} {i:Nat} (hsp:∀ c,specB c all=decide (c∈sp)) (h92:(92:Int)∈sp) (hr:∀ c∈sp,32<=c/\c<=126) (h:(oneM s all i).2.2=false) :
 ∃ e,standsB (oneM s all i).1 e sp=true/\∀ σ,Lft s σ i=(takeR σ (oneM s all i).1 e).bind fun τ=>Lft s τ (oneM s all i).2.1:=by
 have h0:specB 0 all=false:=by
  rw [hsp]
  refine decide_eq_false fun q=>?_
  have:=(hr 0 q).1; omega
 have hok:=one_ok h0 h
 unfold oneM at h hok ⊢
 split
 .rename_i hp
  rw [if_pos hp] at h hok
  have h:(!(specB (peekM s (i+1)) all))=false:=h
  have h:specB (peekM s (i+1)) all=true:=by simpa using h
  rw [hsp] at h
  have hm:=of_decide_eq_true h
  refine ⟨true,?_,fun σ=>Lft_esc (by have:i+2<=s.size:=hok.1; omega) hp σ⟩
  have:=hr _ hm
  unfold standsB
  simp [this,hm]
 .rename_i hp
  rw [if_neg hp] at h hok
  have h:(decide (peekM s i<32)||(decide (126<peekM s i)||specB (peekM s i) all))=false:=h
  simp only [Bool.or_eq_false_iff,decide_eq_false_iff_not] at h
  refine ⟨false,?_,fun σ=>Lft_plain (by have:i+1<=s.size:=hok.1; omega) hp σ⟩
  rw [hsp] at h
  have h3:=of_decide_eq_false h.2.2
  unfold standsB
  have a1:32<=peekM s i:=by omega
  have a2:peekM s i<=126:=by omega
  simp [a1,a2,h3]
theorem one_bad {s all:ByteArray} {sp:List Int} {i:Nat} (hi:i<=s.size) (hsp:∀ c,specB c all=decide (c∈sp)) (h92:(92:Int)∈sp) (hr:∀ c∈sp,32<=c/\c<=126) (h:(oneM s all i).2.2=true) :
 (i=s.size/\∀ σ,Lft s σ i=finR σ)\/(i<s.size/\∃ c e,(e=false->c=peekM s i)/\(e=true->c∉sp)/\standsB c e sp=false/\∀ σ,takeR σ c e=none->Lft s σ i=none):=by
 rcases Nat.lt_or_ge i s.size with hlt | hge
 .right
  refine ⟨hlt,?_⟩
  unfold oneM at h
  split at h
  .rename_i hp
   have h:(!(specB (peekM s (i+1)) all))=true:=h
   have h:specB (peekM s (i+1)) all=false:=by simpa using h
   rw [hsp] at h
   have hm:=of_decide_eq_false h
   rcases Nat.lt_or_ge (i+1) s.size with h2 | h2
   .refine ⟨peekM s (i+1),true,fun q=>(by cases q),fun _=>hm,?_,fun σ hn=>?_⟩
    .unfold standsB; simp [hm]
    .rw [Lft_esc h2 hp,hn]; rfl
   .refine ⟨92,false,fun _=>hp.symm,fun q=>(by cases q),?_,fun σ hn=>?_⟩
    .unfold standsB; simp [h92]
    .rw [Lft_last (by omega) hp,hn]; rfl
  .rename_i hp
   have h:(decide (peekM s i<32)||(decide (126<peekM s i)||specB (peekM s i) all))=true:=h
   rw [hsp] at h
   refine ⟨peekM s i,false,fun _=>rfl,fun q=>(by cases q),?_,fun σ hn=>?_⟩
   .simp only [Bool.or_eq_true,decide_eq_true_eq] at h
    unfold standsB
    rcases h with h | h | h
    .have:¬ 32<=peekM s i:=by omega
     simp [this]
    .have:¬ peekM s i<=126:=by omega
     simp [this]
    .simp [h]
   .rw [Lft_plain hlt hp,hn]; rfl
 .left
  exact ⟨by omega,fun σ=>Lft_end hge σ⟩
theorem marks_r:∀ c∈marksB,32<=c/\c<=126:=by decide
theorem cls_r:∀ c∈clsB,32<=c/\c<=126:=by decide
theorem cls_bad {s:ByteArray} {i:Nat} {σ:RdS} {l:List Rg} {pl:Int} (hi:i<=s.size) (hσ:σ.cls=some (l,pl)) (h:(oneM s clsS i).2.2=true) (hno:(pl≠1\/peekM s i≠45)/\(wholeC l pl=false\/peekM s i≠93)):Lft s σ i=none:=by
 rcases one_bad (sp:=clsB) hi spec_cls (by decide) cls_r h with ⟨_,q⟩ | ⟨hlt,c,e,q1,q2,q3,q4⟩
 .rw [q]; unfold finR; rw [hσ]
 .refine q4 σ ?_
  unfold takeR
  rw [hσ]
  show inClassR σ l pl c e=none
  unfold inClassR
  rw [if_neg (by rw [q3]; decide)]
  cases e with
  | true =>
    have hc:=q2 rfl
    rw [if_neg (fun x=>hc (by rw [x]; decide)),if_neg (fun x=>hc (by rw [x]; decide))]
  | false =>
    have hc:=q1 rfl
    rw [hc]
    split
    .rename_i h45
     rw [if_neg (fun x=>hno.1.elim (fun y=>y x) fun y=>y h45)]
    .split
     .rename_i h93
      rw [if_neg (fun x=>hno.2.elim (fun y=>by rw [y] at x; cases x) fun y=>y h93)]
     .rfl
theorem cls_good {s:ByteArray} {i:Nat} {σ:RdS} {l:List Rg} {pl:Int} (hσ:σ.cls=some (l,pl)) (h:(oneM s clsS i).2.2=false):Lft s σ i=(match addC l pl (oneM s clsS i).1 with
 | some x=>some { σ with cls:=some x }
 | none=>none:Option RdS).bind fun τ=>Lft s τ (oneM s clsS i).2.1:=by
 obtain ⟨e,h1,h2⟩:=one_good (sp:=clsB) spec_cls (by decide) cls_r h
 rw [h2]
 have:takeR σ (oneM s clsS i).1 e=inClassR σ l pl (oneM s clsS i).1 e:=by unfold takeR; rw [hσ]
 rw [this]
 unfold inClassR
 rw [if_pos h1]
 cases addC l pl (oneM s clsS i).1<;>rfl
theorem step_is {s:ByteArray} {i:Nat} {σ:RdS} {l:List Rg} {pl:Int} (hi:i<=s.size) (hσ:σ.cls=some (l,pl)) (hp:pl=0\/(pl=1/\peekM s i≠45)) (hx:l=[]\/peekM s i≠93) :
 ((stepC s i).2.2=true->Lft s σ i=none)/\((stepC s i).2.2=false->∃ pl',(pl'=0\/(pl'=1/\peekM s (stepC s i).2.1≠45))/\Lft s σ i=Lft s { σ with cls:=some (l++[(stepC s i).1],pl') } (stepC s i).2.1):=by
 have hno:(pl≠1\/peekM s i≠45)/\(wholeC l pl=false\/peekM s i≠93):=by
  refine ⟨?_,?_⟩
  .rcases hp with q | q
   .left; omega
   .right; exact q.2
  .rcases hx with q | q
   .left; rw [q]; rfl
   .right; exact q
 have h2:pl≠2:=by rcases hp with q | q<;>omega
 cases ho:(oneM s clsS i).2.2 with
 | true =>
   have hs:(stepC s i)=(((oneM s clsS i).1,(oneM s clsS i).1),(oneM s clsS i).2.1,(oneM s clsS i).2.2):=if_neg (fun q=>by rw [ho] at q; cases q.1)
   rw [hs]
   refine ⟨fun _=>cls_bad hi hσ ho hno,fun q=>?_⟩
   have q:(oneM s clsS i).2.2=false:=q
   rw [ho] at q; cases q
 | false =>
   have g1:=cls_good (i:=i) hσ ho
   have hok:=one_ok (all:=clsS) (i:=i) (s:=s) (by decide +kernel) ho
   have ha:addC l pl (oneM s clsS i).1=some (l++[((oneM s clsS i).1,(oneM s clsS i).1)],1):=if_pos h2
   rw [ha] at g1
   have g1:Lft s σ i=Lft s { σ with cls:=some (l++[((oneM s clsS i).1,(oneM s clsS i).1)],1) } (oneM s clsS i).2.1:=g1
   by_cases hd:peekM s (oneM s clsS i).2.1=45
   .have hs:(stepC s i)=(((oneM s clsS i).1,(oneM s clsS ((oneM s clsS i).2.1+1)).1),(oneM s clsS ((oneM s clsS i).2.1+1)).2.1,(oneM s clsS ((oneM s clsS i).2.1+1)).2.2||decide ((oneM s clsS ((oneM s clsS i).2.1+1)).1<(oneM s clsS i).1)):=if_pos ⟨ho,hd⟩
    have hlt:(oneM s clsS i).2.1<s.size:=peek_lt (by rw [hd]; decide)
    have g2:=Lft_plain hlt (by rw [hd]; decide) { σ with cls:=some (l++[((oneM s clsS i).1,(oneM s clsS i).1)],1) }
    rw [hd] at g2
    have ht:takeR { σ with cls:=some (l++[((oneM s clsS i).1,(oneM s clsS i).1)],1) } 45 false=some { σ with cls:=some (l++[((oneM s clsS i).1,(oneM s clsS i).1)],2) }:=rfl
    rw [ht] at g2
    have g2:Lft s { σ with cls:=some (l++[((oneM s clsS i).1,(oneM s clsS i).1)],1) } (oneM s clsS i).2.1=Lft s { σ with cls:=some (l++[((oneM s clsS i).1,(oneM s clsS i).1)],2) } ((oneM s clsS i).2.1+1):=g2
    have hdc:addC (l++[((oneM s clsS i).1,(oneM s clsS i).1)]) 2 (oneM s clsS ((oneM s clsS i).2.1+1)).1=if (oneM s clsS ((oneM s clsS i).2.1+1)).1<(oneM s clsS i).1 then none else some (l++[((oneM s clsS i).1,(oneM s clsS ((oneM s clsS i).2.1+1)).1)],0):=by
     unfold addC
     rw [if_neg (by decide)]
     simp
    rw [hs]
    cases ho2:(oneM s clsS ((oneM s clsS i).2.1+1)).2.2 with
    | true =>
      refine ⟨fun _=>?_,fun q=>?_⟩
      .rw [g1,g2]
       exact cls_bad (by omega) rfl ho2 ⟨.inl (by decide),.inl (by unfold wholeC; simp)⟩
      .simp at q
    | false =>
      have g3:=cls_good (i:=(oneM s clsS i).2.1+1) (σ:={ σ with cls:=some (l++[((oneM s clsS i).1,(oneM s clsS i).1)],2) }) rfl ho2
      rw [hdc] at g3
      refine ⟨fun q=>?_,fun q=>?_⟩
      .have q:(oneM s clsS ((oneM s clsS i).2.1+1)).1<(oneM s clsS i).1:=by simpa using q
       rw [if_pos q] at g3
       rw [g1,g2,g3]; rfl
      .have q:¬ (oneM s clsS ((oneM s clsS i).2.1+1)).1<(oneM s clsS i).1:=by simpa using q
       rw [if_neg q] at g3
       exact ⟨0,.inl rfl,by rw [g1,g2,g3]; rfl⟩
   .have hs:(stepC s i)=(((oneM s clsS i).1,(oneM s clsS i).1),(oneM s clsS i).2.1,(oneM s clsS i).2.2):=if_neg (fun q=>hd q.2)
    rw [hs]
    refine ⟨fun q=>?_,fun _=>⟨1,.inr ⟨rfl,hd⟩,g1⟩⟩
    have q:(oneM s clsS i).2.2=true:=q
    rw [ho] at q; cases q
theorem class_is (s:ByteArray):∀ (f:Nat) (l:List Rg) (i:Nat) (σ:RdS) (pl:Int),i<=s.size->s.size+1-i<=f->σ.cls=some (l,pl)->(pl=0\/(pl=1/\peekM s i≠45))->
 ((classL s f l i false).2.2=true->Lft s σ i=none)/\
 ((classL s f l i false).2.2=false->(classL s f l i false).2.1<s.size/\Lft s σ i=Lft s (addClassR { σ with cls:=none } (classL s f l i false).1) ((classL s f l i false).2.1+1))/\
 i<=(classL s f l i false).2.1/\(classL s f l i false).2.1<=s.size+5/\(classL s f l i false).1.length<=l.length+((classL s f l i false).2.1-i):=by
 intro f
 induction f with
 | zero=>intro l i σ pl hi hf; omega
 | succ f ih =>
   intro l i σ pl hi hf hσ hp
   rw [classL]
   split
   .rename_i hc
    have hx:l=[]\/peekM s i≠93:=hc.2
    have h1:=step_is hi hσ hp hx
    have hle:=step_le s i
    cases hs:(stepC s i).2.2 with
    | true =>
      have hlt:i<(stepC s i).2.1:=by
       have h1:=one_le s clsS i
       have h2:=one_le s clsS ((oneM s clsS i).2.1+1)
       unfold stepC
       split
       .show i<(oneM s clsS ((oneM s clsS i).2.1+1)).2.1; omega
       .show i<(oneM s clsS i).2.1; omega
      have:classL s f (l++[(stepC s i).1]) (stepC s i).2.1 true=(l++[(stepC s i).1],(stepC s i).2.1,true):=by
       cases f with
       | zero=>rfl
       | succ f=>rw [classL,if_neg (fun q=>by cases q.1)]
      rw [this]
      refine ⟨fun _=>h1.1 hs,fun q=>(by cases q),by show i<=(stepC s i).2.1; omega,by show (stepC s i).2.1<=_; omega,?_⟩
      show (l++[(stepC s i).1]).length<=l.length+((stepC s i).2.1-i)
      rw [List.length_append]; simp only [List.length_cons,List.length_nil]; omega
    | false =>
      obtain ⟨pl',q1,q2⟩:=h1.2 hs
      have hok:=step_ok hs
      obtain ⟨r1,r2,r3,r4,r5⟩:=ih (l++[(stepC s i).1]) (stepC s i).2.1 { σ with cls:=some (l++[(stepC s i).1],pl') } pl' hok.1 (by omega) rfl q1
      refine ⟨fun q=>by rw [q2]; exact r1 q,fun q=>⟨(r2 q).1,by rw [q2]; exact (r2 q).2⟩,by omega,r4,?_⟩
      rw [List.length_append] at r5
      simp only [List.length_cons,List.length_nil] at r5
      omega
   .rename_i hc
    have hx:l≠[]/\peekM s i=93:=by
     refine ⟨fun q=>hc ⟨rfl,.inl q⟩,?_⟩
     apply Classical.byContradiction
     intro q
     exact hc ⟨rfl,.inr q⟩
    have hlt:i<s.size:=peek_lt (by rw [hx.2]; decide)
    refine ⟨fun q=>(by cases q),fun _=>⟨hlt,?_⟩,Nat.le_refl _,by show i<=_; omega,by show l.length<=_; omega⟩
    rw [Lft_plain hlt (by rw [hx.2]; decide),hx.2]
    have ht:takeR σ 93 false=some { addClassR σ l with cls:=none }:=by
     unfold takeR
     rw [hσ]
     show inClassR σ l pl 93 false=_
     unfold inClassR
     rw [if_neg (by decide),if_neg (by decide),if_pos rfl,if_pos]
     unfold wholeC
     have h1:0<l.length:=List.length_pos_iff.2 hx.1
     have h2:pl≠2:=by rcases hp with q | q<;>omega
     simp [h1,h2]
    rw [ht]
    show Lft s _ (i+1)=Lft s _ (i+1)
    congr 1
    unfold addClassR joinR putR
    split<;>rfl
end Go.Ew
