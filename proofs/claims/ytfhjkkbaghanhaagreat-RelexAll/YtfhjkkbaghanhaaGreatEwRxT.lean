import Derived.Test.YtfhjkkbaghanhaaGreatEwRx4
import Derived.Test.YtfhjkkbaghanhaaGreatEwS4
set_option linter.unusedVariables false
set_option linter.unusedSimpArgs false
namespace Go.Ew
open Go.Ev Go.Deep
theorem ItR.mono {H H':KH} {l:List It} {a:OA} (h:ItR H l a) (hl:Le H H'):ItR H' l a:=by
 obtain ⟨cs,h1,h2⟩:=h
 exact ⟨cs,hl.kold h1,h2.mono hl⟩
theorem ItC.app2 {X:KH}:∀ {l m:List It} {cs ds:List Value},ItC X l cs->ItC X m ds->ItC X (l++m) (cs++ds)
 | [],m,cs,ds,h,k=>by
   have h:cs=[]:=h
   subst h; exact k
 | (op,l) :: r,m,cs,ds,⟨a,c,es,h1,h2,h3⟩,k=>by
  subst h1
  exact ⟨a,c,_,rfl,h2,ItC.app2 h3 k⟩
theorem Own.base {H0 H1 H:KH} {sz n c:Nat} {a:OA} {cs:List Value} (h:Own H0 H sz a n c cs) (hb:∀ b,blk a=some b->H1 b=none):Own H1 H sz a n c cs:=by
 cases h with
 | nil=>exact .nil
 | lit b _ _ h1 h2 h3 h4=>exact .lit b n cs h1 h2 h3 (hb b rfl)
 | grown b _ _ e h1 h2 h3 h4 h5 h6=>exact .grown b n cs e h1 h2 h3 h4 (hb b rfl) h6
theorem Own.out {H0 H:KH} {sz n c:Nat} {a:OA} {cs:List Value} (h:Own H0 H sz a n c cs) {b:Nat} (hb:blk a=some b):H0 b=none:=by
 cases h with
 | nil=>cases hb
 | lit b' _ _ h1 h2 h3 h4=>cases hb; exact h4
 | grown b' _ _ e h1 h2 h3 h4 h5 h6=>cases hb; exact h5
theorem Own.agree {H0 H H':KH} {sz n c:Nat} {a:OA} {cs:List Value} (h:Own H0 H sz a n c cs) (hk:∀ k e,blk a=some k->H k=some e->H' k=some e):Own H0 H' sz a n c cs:=by
 cases h with
 | nil=>exact .nil
 | lit b _ _ h1 h2 h3 h4=>exact .lit b n cs (hk b _ rfl h1) h2 h3 h4
 | grown b _ _ e h1 h2 h3 h4 h5 h6=>exact .grown b n cs e (hk b _ rfl h1) h2 h3 h4 h5 h6
theorem Own.know {X H:KH} {p sz n c:Nat} {a:OA} {cs:List Value} (h:Own X H sz a n c cs) (hl:Le X H) (hx:X p=none) (hp:blk a≠some p):∃ Y,Le X Y/\Le Y H/\Y p=none/\kold Y sz a n=some cs/\∀ k,blk a≠some k->X k=none->Y k=none:=by
 have key:∀ (b:Nat) (e:Ent),H b=some e->X b=none->b≠p->Le X (X.new b e)/\Le (X.new b e) H/\(X.new b e) p=none:=fun b e h1 h2 h3=>by
  refine ⟨Le.new h2,fun k e' q=>?_,?_⟩
  .simp only [KH.new] at q
   split at q
   .rename_i hk; subst hk; cases q; exact h1
   .exact hl k e' q
  .simp only [KH.new]; rw [if_neg (fun q=>h3 q.symm)]; exact hx
 have hc:=h.cells
 cases h with
 | nil=>exact ⟨X,Le.refl _,hl,hx,rfl,fun k _ q=>q⟩
 | lit b _ _ h1 h2 h3 h4 =>
   obtain ⟨k1,k2,k3⟩:=key b _ h1 h4 (fun q=>hp (by rw [<- q]; rfl))
   refine ⟨_,k1,k2,k3,lit_kold (if_pos rfl) h2,fun k q1 q2=>?_⟩
   simp only [KH.new]; rw [if_neg (fun q=>q1 (by rw [q]; rfl))]; exact q2
 | grown b _ _ e h1 h2 h3 h4 h5 h6 =>
   obtain ⟨k1,k2,k3⟩:=key b _ h1 h5 (fun q=>hp (by rw [<- q]; rfl))
   refine ⟨_,k1,k2,k3,kold_some.2 ⟨e,if_pos rfl,h4⟩,fun k q1 q2=>?_⟩
   simp only [KH.new]; rw [if_neg (fun q=>q1 (by rw [q]; rfl))]; exact q2
section
variable {X H : KH} {p : Nat} {s : ByteArray} {i : Nat} {b : Bool}
theorem P3.up (h:P3 X H p s i b) {H':KH} (hl:Le H H'):P3 X H' p s i b:=by
 obtain ⟨e,h1,h2⟩:=h.ex
 exact ⟨h.le.trans hl,h.xp,e,hl p e h1,h2⟩
theorem P3.re (h:P3 X H p s i b) {X':KH} (hl:Le X' H) (hx:X' p=none):P3 X' H p s i b:=⟨hl,hx,h.ex⟩
theorem delLe (H:KH) (p:Nat):Le (H.del p) H:=fun k e q=>by
 simp only [KH.del] at q
 split at q
 .cases q
 .exact q
theorem del_at (H:KH) (p:Nat):(H.del p) p=none:=if_pos rfl
theorem P3.all' (h:P3 X H p s i b):P3 (H.del p) H p s i b:=h.re (delLe H p) (del_at H p)
theorem P3.kept (h0:P3 X H p s i b) {H':KH} {j:Nat} {b':Bool} (h:P3 (H.del p) H' p s j b'):P3 X H' p s j b'/\∀ k e,k≠p->H k=some e->H' k=some e:=by
 have key:∀ k e,k≠p->H k=some e->H' k=some e:=fun k e hk q=>h.le k e (by simp only [KH.del]; rw [if_neg hk]; exact q)
 exact ⟨⟨fun k e q=>key k e (fun x=>by rw [x,h0.xp] at q; cases q) (h0.le k e q),h0.xp,h.ex⟩,key⟩
theorem P3.append {ti:TI} {a:OA} {n c m nm:Nat} {cs new:List Value} (h:P3 X H p s i b) (ho:Own X H ti.size a n c cs) (hp:blk a≠some p) (hnm:H nm=none) (hm:new.length=m*ti.size) (hs:n+m<=1000000) (hb:ti.bytes<=1000000) (hz:1<=ti.size) (hro:ti.size<=1000000:=by decide) :
 ∃ a' c' H',kappend H nm ti a n c m new=some (.slice a' (n+m) c',H')/\P3 X H' p s i b/\Own X H' ti.size a' (n+m) c' (cs++new)/\blk a'≠some p/\(∀ k e,H k=some e->blk a≠some k->H' k=some e):=by
 obtain ⟨e,h1,h2,h3⟩:=h.ex
 have hl:Le (X.new p e) H:=fun k e' q=>by
  simp only [KH.new] at q
  split at q
  .rename_i hk; subst hk; cases q; exact h1
  .exact h.le k e' q
 have ho2:Own (X.new p e) H ti.size a n c cs:=ho.base fun b q=>by
  simp only [KH.new]
  rw [if_neg (fun x=>hp (by rw [q,x]))]
  exact ho.out q
 obtain ⟨a',c',H',g1,g2,g3,g4,g5⟩:=ho2.append hl hnm hm hs hb hz hro
 refine ⟨a',c',H',g1,⟨(Le.new h.xp).trans g3,h.xp,e,g3 p e (if_pos rfl),h2,h3⟩,g2.base fun b q=>?_,fun q=>?_,g4⟩
 .have:=g2.out q
  simp only [KH.new] at this
  split at this
  .cases this
  .exact this
 .have:=g2.out q
  simp only [KH.new,if_true] at this
  cases this
end
def Kp (K' H':KH) (sz:Nat) (a:OA) (n c:Nat) (cs:List Value):Prop:=Le K' H'/\∀ Z,Le Z K'->Own Z H' sz a n c cs
theorem keepRow {E:Env} {g:Nat} {args:List Value} {X H:KH} {p:Nat} {s:ByteArray} {i:Nat} {b:Bool} {sz n c:Nat} {a:OA} {cs:List Value} {Q:PQ} (h:P3 X H p s i b) (ho:Own X H sz a n c cs) (hp:blk a≠some p)
 (hc:∀ K,P3 X K p s i b->Does E g args K fun v K'=>∀ H',Kp K' H' sz a n c cs->Q v H'):Does E g args H Q:=by
 have key:∀ (bb:Nat) (e:Ent),H bb=some e->X bb=none->bb≠p->(∀ (Z K':KH),Z bb=none->Own Z (K'.new bb e) sz a n c cs)->Does E g args H Q:=fun bb e h1 h2 h3 h4=>by
  have hH:(H.del bb).new bb e=H:=by
   funext k
   simp only [KH.new,KH.del]
   split
   .rename_i hk; rw [hk]; exact h1.symm
   .rfl
  have hpk:P3 X (H.del bb) p s i b:=by
   obtain ⟨e0,q1,q2⟩:=h.ex
   refine ⟨fun k e' q=>?_,h.xp,e0,?_,q2⟩
   .simp only [KH.del]; rw [if_neg (fun x=>by rw [x,h2] at q; cases q)]; exact h.le k e' q
   .simp only [KH.del]; rw [if_neg (fun x=>h3 x.symm)]; exact q1
  have:=Does.frame (del_at H bb) (Q:=Q) (e:=e) ((hc _ hpk).post fun v K' q hk=>q _ ⟨Le.new hk,fun Z hZ=>h4 Z K' (hZ.none hk)⟩)
  rwa [hH] at this
 cases ho with
 | nil=>exact (hc H h).post fun v K' q=>q K' ⟨Le.refl _,fun Z _=>.nil⟩
 | lit bb _ _ h1 h2 h3 h4=>exact key bb _ h1 h4 (fun q=>hp (by rw [<- q]; rfl)) fun Z K' hz=>.lit bb n cs (if_pos rfl) h2 h3 hz
 | grown bb _ _ e h1 h2 h3 h4 h5 h6=>exact key bb _ h1 h5 (fun q=>hp (by rw [<- q]; rfl)) fun Z K' hz=>.grown bb n cs e (if_pos rfl) h2 h3 h4 hz h6
structure OutR (X Z H:KH) (p:Nat) (s:ByteArray) (a:OA) (c:Nat) (I:List It) (i i':Nat) (b':Bool):Prop where
 le:Le X Z
 pt:P3 Z H p s i' b'
 own:∃ cs,Own Z H 2 a I.length c cs/\ItC Z I cs
 np:blk a≠some p
 lt:i<i'
 ln:I.length+2<=3*(i'-i)
 up:i'<=s.size+6
 gd:b'=false->i'<=s.size
theorem OutR.nil {X Z H:KH} {p:Nat} {s:ByteArray} {i i':Nat} {b':Bool} (hl:Le X Z) (h:P3 Z H p s i' b') (h1:i<i') (h2:i'<=s.size+6) (h3:b'=false->i'<=s.size):OutR X Z H p s none 0 [] i i' b' :=
 ⟨hl,h,⟨[],.nil,rfl⟩,fun q=>(by cases q),h1,by show 0+2<=_; omega,h2,h3⟩
theorem OutR.one {X K:KH} {p:Nat} {s:ByteArray} {i i':Nat} {b':Bool} {l:List Rg} {a:OA} {c n:Nat} (h:P3 X K p s i' b') (ho:Own X K 2 a l.length c (rgC l)) (hp:blk a≠some p) (hn:K n=none) (h1:i<i') (h2:i'<=s.size+6) (h3:b'=false->i'<=s.size) :
 ∃ Z,OutR X Z (K.new n (mkEnt [.int .i64 1,.slice a l.length c] 0)) p s (some ⟨n,0,none⟩) 1 [(1,l)] i i' b':=by
 obtain ⟨Y,y1,y2,y3,y4,y5⟩:=ho.know h.le h.xp hp
 have hle:Le K (K.new n (mkEnt [.int .i64 1,.slice a l.length c] 0)):=Le.new hn
 have hY:Y n=none:=y2.none hn
 refine ⟨Y,y1,(h.up hle).re (y2.trans hle) y3,⟨[.int .i64 1,.slice a l.length c],.lit n 1 _ (if_pos rfl) rfl (by unfold unkU; omega) hY,?_⟩,fun q=>?_,h1,by show 1+2<=_; omega,h2,h3⟩
 .exact ⟨a,c,[],rfl,y4,rfl⟩
 .have q:n=p:=by cases q; rfl
  obtain ⟨e,q1,_⟩:=h.ex
  rw [q,q1] at hn; cases hn
end Go.Ew
namespace Go.Proofs.YtfhjkkbaghanhaaGreat
open Go.Ev Go.Ew
namespace Va
section
variable (ok : EnvOk (env Tryz.prog))
include ok
omit ok in
theorem tail41 {X K:KH} {p:Nat} {s:ByteArray} {i2:Nat} {b2:Bool} {l:List Rg} {a:OA} {c m:Nat} {lo hi:Int} {I:Nat->Nat->Nat->OA->Nat->Nat->KH->Prop}
 (h:P3 X K p s i2 b2) (ho:Own X K 2 a l.length c (rgC l)) (hp:blk a≠some p) (hs:l.length<=1000)
 (hI:∀ a' c' H',P3 X H' p s i2 b2->Own X H' 2 a' (l.length+1) c' (rgC (l++[(lo,hi)]))->blk a'≠some p->∃ n9,n9<m/\(none:Option Nat)=none/\I n9 p 0 a' (l.length+1) c' H') :
 ∀ n1,K n1=none->∀ n2,(K.new n1 (mkEnt [.int .u8 lo,.int .u8 hi] 0)) n2=none->∃ n3,∃ l4,knew (K.new n1 (mkEnt [.int .u8 lo,.int .u8 hi] 0)) RT2 (.slice (some ⟨n1,0,none⟩) 1 1)=some (n3,l4)/\
  ∃ a5 n6 n7 H8,kappend (K.new n1 (mkEnt [.int .u8 lo,.int .u8 hi] 0)) n2 RT2 a l.length c n3 l4=some (.slice a5 n6 n7,H8)/\∃ n9,n9<m/\(none:Option Nat)=none/\I n9 p 0 a5 n6 n7 H8:=by
 intro n1 h1 n2 h2
 have h':=h.up (Le.new (e:=mkEnt [.int .u8 lo,.int .u8 hi] 0) h1)
 have ho':=ho.mono (Le.new (e:=mkEnt [.int .u8 lo,.int .u8 hi] 0) h1)
 obtain ⟨a',c',H',g1,g2,g3,g4,_⟩:=h'.append (ti:=RT2) (m:=1) (new:=[.int .u8 lo,.int .u8 hi]) ho' hp h2 rfl (by omega) (by decide) (by decide)
 refine ⟨1,_,knew_of (lit_kold (if_pos rfl) rfl),a',_,c',H',g1,hI a' c' H' g2 ?_ g4⟩
 rw [rgC_app]
 exact g3
theorem c94 {X H:KH} {p:Nat} {s:ByteArray} {i0 i:Nat} {Q:PQ} (h:P3 X H p s i false) (hi:i<=s.size) (hs:s.size<=24) (h0:i0<i)
 (hq:∀ Z H' n,OutR X Z H' p s (some ⟨n,0,none⟩) 1 [(1,(classL s (s.size+1-i) [] i false).1)] i0 ((classL s (s.size+1-i) [] i false).2.1+1) (classL s (s.size+1-i) [] i false).2.2->Q (.slice (some ⟨n,0,none⟩) 1 1) H'):Does (env Tryz.prog) 94 [.pointer (some ⟨p,0,none⟩)] H Q:=by
 have hall:∀ {σ:RdS},σ.cls=some ([],0)->_:=fun {σ} q=>class_is s (s.size+1-i) [] i σ 0 hi (Nat.le_refl _) q (.inl rfl)
 obtain ⟨_,r2,r3,r4,r5⟩:=hall (σ:=⟨[],[],false,0,some ([],0)⟩) rfl
 generalize hr:classL s (s.size+1-i) [] i false=r at *
 refine fn94 ok ?_
 unfold vc94 vc94_L6
 refine ⟨fun n3 n4 n5 a6 n7 n8 H9=>n4=p/\n5=0/\∃ l j b,n7=l.length/\P3 X H9 p s j b/\Own X H9 2 a6 l.length n8 (rgC l)/\blk a6≠some p/\classL s n3 l j b=r/\(b=false->j<=s.size)/\measC s j b<=n3/\l.length<=j/\j<=s.size+6,⟨s.size+1-i,rfl,rfl,rfl,[],i,false,rfl,h,.nil,(fun q=>(by cases q)),hr,fun _=>hi,by simp [measC],by simp,by omega⟩,?_⟩
 rintro n3 n4 n5 a6 n7 n8 H9 ⟨rfl,rfl,l,j,b,rfl,hP,hO,hnp,hcl,hj,hm,hlj,hju⟩
 have fin:vc94_J5 H9 n4 0 Q a6 l.length n8->True:=fun _=>trivial
 have done:∀ K,P3 X K n4 s j b->Own X K 2 a6 l.length n8 (rgC l)->r=(l,j,b)->vc94_J5 K n4 0 Q a6 l.length n8:=by
  intro K hK hOK hre
  unfold vc94_J5
  have hw:IntKind.wrap .i64 (((j:Nat):Int)+1)=((j+1:Nat):Int):=by rw [wrap64 (by omega) (by omega)]; omega
  have hK2:=hK.setAt (j+1)
  refine ⟨rfl,_,hK.c1,rfl,stOk hK.c1 rfl,hK.may,fun n3 hn3=>?_⟩
  rw [hw] at hn3 ⊢
  have hO2:Own X (K.put ⟨n4,1,none⟩ [.int .i64 ((j+1:Nat):Int)]) 2 a6 l.length n8 (rgC l):=hOK.agree fun k e q1 q2=>put_ne (fun x=>hnp (by rw [q1,x])) q2
  subst hre
  have r2:b=false->j<s.size/\_:=r2
  obtain ⟨Z,hZ⟩:=OutR.one (i:=i0) hK2 hO2 hnp hn3 (by have:i<=j:=r3; omega) (by have:j<=s.size+5:=r4; omega) (fun q=>by have:=(r2 q).1; omega)
  exact hq Z _ n3 hZ
 refine ⟨rfl,b,hP.c2,fun hb=>?_,fun hb=>?_⟩
 .have hb:b=false:=by simpa using hb
  subst hb
  have hj:=hj rfl
  obtain ⟨f,rfl⟩:∃ f,n3=f+1:=⟨n3-1,by simp [measC] at hm; omega⟩
  have hround:(l=[]\/peekM s j≠93)->∀ K,P3 X K n4 s j false->Own X K 2 a6 l.length n8 (rgC l)->vc94_J4 n4 0 K a6 l.length n8 (f+1) (fun n3 n4_1 n5 a6 n7 n8 H9=>n4_1=n4/\n5=0/\∃ l j b,n7=l.length/\P3 X H9 n4 s j b/\Own X H9 2 a6 l.length n8 (rgC l)/\blk a6≠some n4/\classL s n3 l j b=r/\(b=false->j<=s.size)/\measC s j b<=n3/\l.length<=j/\j<=s.size+6):=by
   intro hx K hK hOK
   have hstep:classL s (f+1) l j false=classL s f (l++[(stepC s j).1]) (stepC s j).2.1 (stepC s j).2.2:=by rw [classL,if_pos ⟨rfl,hx⟩]
   rw [hstep] at hcl
   have hle:=step_le s j
   have hlt:j<(stepC s j).2.1:=by
    have h1:=one_le s clsS j
    have h2:=one_le s clsS ((oneM s clsS j).2.1+1)
    unfold stepC
    split
    .show j<(oneM s clsS ((oneM s clsS j).2.1+1)).2.1; omega
    .show j<(oneM s clsS j).2.1; omega
   have hjj:(stepC s j).2.2=false->(stepC s j).2.1<=s.size:=fun q=>(step_ok q).1
   have hmm:measC s (stepC s j).2.1 (stepC s j).2.2<=f:=by
    cases hsb:(stepC s j).2.2 with
    | true=>simp [measC]
    | false=>have:=hjj hsb; simp [measC] at hm ⊢; omega
   have o1:=one_le s clsS j
   have conc:∀ a' c' H',P3 X H' n4 s (stepC s j).2.1 (stepC s j).2.2->Own X H' 2 a' (l.length+1) c' (rgC (l++[(stepC s j).1]))->blk a'≠some n4->∃ n9,n9<f+1/\(none:Option Nat)=none/\(n4=n4/\0=0/\∃ l_1 j b,l.length+1=l_1.length/\P3 X H' n4 s j b/\Own X H' 2 a' l_1.length c' (rgC l_1)/\blk a'≠some n4/\classL s n9 l_1 j b=r/\(b=false->j<=s.size)/\measC s j b<=n9/\l_1.length<=j/\j<=s.size+6):=by
    intro a' c' H' q1 q2 q3
    refine ⟨f,by omega,rfl,rfl,rfl,l++[(stepC s j).1],_,_,by simp,q1,by simpa using q2,q3,hcl,hjj,hmm,by simp; omega,by omega⟩
   have ownk:∀ {K1 K2:KH},Own X K1 2 a6 l.length n8 (rgC l)->(∀ k e,k≠n4->K1 k=some e->K2 k=some e)->Own X K2 2 a6 l.length n8 (rgC l):=fun q1 q2=>q1.agree fun k e q3 q4=>q2 k e (fun x=>hnp (by rw [q3,x])) q4
   have putk:∀ {K1:KH} {o:Nat} {vs:List Value},(∀ k e,k≠n4->K1 k=some e->(K1.put ⟨n4,o,none⟩ vs) k=some e):=fun {K1} {o} {vs} k e q1 q2=>put_ne q1 q2
   unfold vc94_J4
   refine c95 ok (all:=clsS) hK.all' (by decide) (by omega) fun H2 hp2'=>?_
   obtain ⟨hp2,kp2⟩:=hK.kept hp2'
   have ho2:=ownk hOK kp2
   simp only [Bool.false_or] at hp2
   have mono41:∀ {lo hi:Int} {i2:Nat} {b2:Bool} {K1:KH},stepC s j=((lo,hi),i2,b2)->P3 X K1 n4 s i2 b2->Own X K1 2 a6 l.length n8 (rgC l)->_:=fun {lo} {hi} {i2} {b2} {K1} e1 e2 e3=>tail41 (m:=f+1) (lo:=lo) (hi:=hi) (I:=fun n3 n4_1 n5 a6 n7 n8 H9=>n4_1=n4/\n5=0/\∃ l j b,n7=l.length/\P3 X H9 n4 s j b/\Own X H9 2 a6 l.length n8 (rgC l)/\blk a6≠some n4/\classL s n3 l j b=r/\(b=false->j<=s.size)/\measC s j b<=n3/\l.length<=j/\j<=s.size+6) e2 e3 hnp (by omega) (by rw [e1] at conc; exact conc)
   refine ⟨_,rfl,rfl,_,hp2.c2,fun hg=>?_,fun hg=>?_⟩
   .have hg:(oneM s clsS j).2.2=false:=by simpa using hg
    refine c47 ok hp2 ⟨_,rfl,fun hd=>?_,fun hd=>?_⟩
    .have hd:peekM s (oneM s clsS j).2.1=45:=by simpa using hd
     have hst:stepC s j=(((oneM s clsS j).1,(oneM s clsS ((oneM s clsS j).2.1+1)).1),(oneM s clsS ((oneM s clsS j).2.1+1)).2.1,(oneM s clsS ((oneM s clsS j).2.1+1)).2.2||decide ((oneM s clsS ((oneM s clsS j).2.1+1)).1<(oneM s clsS j).1)):=if_pos ⟨hg,hd⟩
     have hw:IntKind.wrap .i64 (((oneM s clsS j).2.1:Int)+1)=(((oneM s clsS j).2.1+1:Nat):Int):=by rw [wrap64 (by omega) (by omega)]; omega
     have hp3:=hp2.setAt ((oneM s clsS j).2.1+1)
     have ho3:=ownk ho2 (putk (o:=1) (vs:=[.int .i64 (((oneM s clsS j).2.1+1:Nat):Int)]))
     refine ⟨rfl,_,hp2.c1,rfl,stOk hp2.c1 rfl,hp2.may,?_⟩
     rw [hw]
     refine c95 ok (all:=clsS) hp3.all' (by decide) (by omega) fun H4 hp4'=>?_
     obtain ⟨hp4,kp4⟩:=hp3.kept hp4'
     have ho4:=ownk ho3 kp4
     refine ⟨_,rfl,fun hx1=>⟨rfl,stOk hp4.c2 rfl,hp4.may,?_⟩,fun hx1=>?_⟩
     .have hp5:=hp4.setBad
      have ho5:=ownk ho4 (putk (o:=2) (vs:=[.bool true]))
      have hx1:decide ((oneM s clsS ((oneM s clsS j).2.1+1)).1<(oneM s clsS j).1)=true:=hx1
      rw [hx1,Bool.or_true] at hst
      exact mono41 hst hp5 ho5
     .have hx1:decide ((oneM s clsS ((oneM s clsS j).2.1+1)).1<(oneM s clsS j).1)=false:=hx1
      rw [hx1,Bool.or_false] at hst
      rw [hg,Bool.false_or] at hp4
      exact mono41 hst hp4 ho4
    .have hd:¬ peekM s (oneM s clsS j).2.1=45:=by simpa using hd
     have hst:stepC s j=(((oneM s clsS j).1,(oneM s clsS j).1),(oneM s clsS j).2.1,(oneM s clsS j).2.2):=if_neg (fun q=>hd q.2)
     refine ⟨fun q=>?_,fun _=>?_⟩
     .simp at q
     .unfold vc94_J3
      exact mono41 hst hp2 ho2
   .have hg:(oneM s clsS j).2.2=true:=by simpa using hg
    have hst:stepC s j=(((oneM s clsS j).1,(oneM s clsS j).1),(oneM s clsS j).2.1,(oneM s clsS j).2.2):=if_neg (fun q=>by rw [hg] at q; cases q.1)
    refine ⟨fun q=>?_,fun _=>?_⟩
    .simp at q
    .unfold vc94_J3
     exact mono41 hst hp2 ho2
  refine ⟨fun h1=>?_,fun h1=>?_⟩
  .have h1:l.length=0:=by simpa using h1
   exact hround (.inl (List.eq_nil_of_length_eq_zero h1)) H9 hP hO
  .have h1:¬ l.length=0:=by simpa using h1
   refine c47 ok hP ⟨_,rfl,fun h2=>?_,fun h2=>?_⟩
   .have h2:peekM s j≠93:=by simpa using h2
    exact hround (.inr h2) H9 hP hO
   .have h2:peekM s j=93:=by simpa using h2
    refine done H9 hP hO ?_
    rw [<- hcl,classL,if_neg]
    rintro ⟨_,q | q⟩
    .rw [q] at h1; exact h1 rfl
    .exact q h2
 .have hb:b=true:=by simpa using hb
  subst hb
  refine done H9 hP hO ?_
  rw [<- hcl]
  cases n3 with
  | zero=>rfl
  | succ f=>rw [classL,if_neg (fun q=>by cases q.1)]
end
end Va
end Go.Proofs.YtfhjkkbaghanhaaGreat
namespace Go.Ew
open Go.Ev Go.Deep
def Jn (x:Int):List It:=if x=2 then [(2,[])] else []
def Dn (x:Int):Int:=if x=0 then 1 else 2
theorem add_is {P:List It} {O:List (Bool × Int)} {pt:Bool} {x:Int} (hx:x=0\/x=1\/x=2) (l:List Rg) (c:Option (List Rg × Int)):addClassR ⟨P,O,pt,x,c⟩ l=⟨P++Jn x++[(1,l)],O,pt,Dn x,c⟩:=by
 rcases hx with q | q | q<;>subst q
 .show RdS.mk _ _ _ _ _=_; simp [addClassR,joinR,Jn,Dn]
 .simp [addClassR,joinR,Jn,Dn]
 .simp [addClassR,joinR,Jn,Dn,putR]
def AtomP (s:ByteArray) (deep i:Nat) (I:List It) (i':Nat) (b':Bool):Prop:=∀ P O pt x,O.length=deep->(x=0\/x=1\/x=2)->(x=0\/(i<s.size/\peekM s i≠41/\peekM s i≠124/\peekM s i≠42/\peekM s i≠43/\peekM s i≠63))->
 Lft s ⟨P,O,pt,x,none⟩ i=if b'=true then none else Lft s ⟨P++Jn x++I,O,pt,Dn x,none⟩ i'
def NoSign (s:ByteArray) (i:Nat):Prop:=peekM s i≠42/\peekM s i≠43/\peekM s i≠63
def JoinQ (s:ByteArray) (deep i:Nat) (I:List It) (i':Nat) (b':Bool):Prop :=
 (b'=true->∀ P O pt,O.length=deep->Lft s ⟨P,O,pt,0,none⟩ i=none)/\
 (b'=false->NoSign s i'/\∃ I' x,(x=1\/x=2)/\I=I'++Jn x/\∀ P O pt,O.length=deep->Lft s ⟨P,O,pt,0,none⟩ i=Lft s ⟨P++I',O,pt,x,none⟩ i')
def AltQ (s:ByteArray) (deep i:Nat) (I:List It) (i':Nat) (b':Bool):Prop :=
 (b'=true->∀ P O,O.length=deep->Lft s ⟨P,O,false,0,none⟩ i=none)/\
 (b'=false->(i'=s.size\/peekM s i'=124\/peekM s i'=41)/\∃ I' pt x,(x=1\/x=2)/\I=fins I' pt x/\∀ P O,O.length=deep->Lft s ⟨P,O,false,0,none⟩ i=Lft s ⟨P++I',O,pt,x,none⟩ i')
theorem fins_app (P I:List It) (b:Bool) (x:Int):fins (P++I) b x=P++fins I b x:=by
 unfold fins
 split<;>simp
theorem fin_open {P:List It} {O:List (Bool × Int)} {pt:Bool} {x:Int} (h:x=0\/O≠[]):finR ⟨P,O,pt,x,none⟩=none:=by
 show (if O.length=0 then endR ⟨P,O,pt,x,none⟩ else none)=none
 split
 .rename_i q
  rcases h with h | h
  .subst h; rfl
  .exact absurd (List.eq_nil_of_length_eq_zero q) h
 .rfl
theorem nm_lt {s:ByteArray} {i:Nat} {c:Int} (h:peekM s i=c) (hc:c≠0):i<s.size:=peek_lt (by rw [h]; exact hc)
theorem Lft_mark {s:ByteArray} {i:Nat} {c:Int} (h:peekM s i=c) (hc:c≠0) (hm:standsB c false marksB=false) (h92:c≠92) {σ:RdS} (hσ:σ.cls=none):Lft s σ i=(markR σ c).bind fun τ=>Lft s τ (i+1):=by
 rw [Lft_plain (nm_lt h hc) (by rw [h]; exact h92),h]
 have:takeR σ c false=markR σ c:=by
  unfold takeR
  rw [hσ]
  show (if standsB c false marksB=true then some (addClassR σ [(c,c)]) else markR σ c)=_
  rw [if_neg (by rw [hm]; decide)]
 rw [this]
theorem close_is {I:List It} {O:List (Bool × Int)} {g:Bool × Int} {b:Bool} {x:Int} (h:x=1\/x=2):closeR ⟨I,O++[g],b,x,none⟩=some ⟨fins I b x,O,g.1,g.2+1,none⟩:=by
 unfold closeR
 have h1:(O++[g]).getLast? = some g:=by simp
 have h2:=end_is (I:=I) (O:=O++[g]) (b:=b) h
 simp only [h1,h2]
 simp
theorem open_is {P:List It} {O:List (Bool × Int)} {pt:Bool} {x:Int} (hx:x=0\/x=1\/x=2) (h:O.length<12):∃ y,y+1=Dn x/\openR ⟨P,O,pt,x,none⟩=some ⟨P++Jn x,O++[(pt,y)],false,0,none⟩:=by
 unfold openR
 rw [if_pos h]
 rcases hx with q | q | q<;>subst q
 .exact ⟨0,rfl,by simp [joinR,Jn]⟩
 .exact ⟨1,rfl,by simp [joinR,Jn]⟩
 .exact ⟨1,rfl,by simp [joinR,Jn,putR]⟩
theorem OutR.row {X Z H:KH} {p:Nat} {s:ByteArray} {a:OA} {c:Nat} {I:List It} {i i':Nat} {b':Bool} (h:OutR X Z H p s a c I i i' b') {o:Nat} {vs:List Value}:∃ cs,Own Z (H.put ⟨p,o,none⟩ vs) 2 a I.length c cs/\ItC Z I cs:=by
 obtain ⟨cs,h1,h2⟩:=h.own
 exact ⟨cs,h1.agree fun k e q1 q2=>put_ne (fun x=>h.np (by rw [q1,x])) q2,h2⟩
theorem two_more {Z K:KH} {p:Nat} {s:ByteArray} {j:Nat} {b:Bool} {I I2:List It} {a a2:OA} {c c2 m:Nat} {cs ds:List Value} {op:Int} {J:Nat->OA->Nat->Nat->KH->Prop}
 (h:P3 Z K p s j b) (ho:Own Z K 2 a I.length c cs) (hi:ItC Z I cs) (hp:blk a≠some p) (hk:kold K 2 a2 I2.length=some ds) (hi2:ItC Z I2 ds) (hs:I.length+I2.length<=1000)
 (hJ:∀ a' c' H',P3 Z H' p s j b->(∃ es,Own Z H' 2 a' (I++I2++[(op,[])]).length c' es/\ItC Z (I++I2++[(op,[])]) es)->blk a'≠some p->∃ n,n<m/\(none:Option Nat)=none/\J n a' (I++I2++[(op,[])]).length c' H') :
 ∀ n8,K n8=none->∃ n9 l10,knew K IT2 (.slice a2 I2.length c2)=some (n9,l10)/\∃ a11 n12 n13 H14,kappend K n8 IT2 a I.length c n9 l10=some (.slice a11 n12 n13,H14)/\
  ∀ n15,H14 n15=none->∀ n16,(H14.new n15 (mkEnt [.int .i64 op,.slice none 0 0] 0)) n16=none->∃ n17 l18,knew (H14.new n15 (mkEnt [.int .i64 op,.slice none 0 0] 0)) IT2 (.slice (some ⟨n15,0,none⟩) 1 1)=some (n17,l18)/\
   ∃ a19 n20 n21 H22,kappend (H14.new n15 (mkEnt [.int .i64 op,.slice none 0 0] 0)) n16 IT2 a11 n12 n13 n17 l18=some (.slice a19 n20 n21,H22)/\∃ n23,n23<m/\(none:Option Nat)=none/\J n23 a19 n20 n21 H22:=by
 intro n8 h8
 obtain ⟨a',c',H',g1,g2,g3,g4,_⟩:=h.append (ti:=IT2) (m:=I2.length) (new:=ds) ho hp h8 hi2.len (by omega) (by decide) (by decide)
 refine ⟨_,_,knew_of hk,a',_,c',H',g1,fun n15 h15 n16 h16=>?_⟩
 have q2:=g2.up (Le.new (e:=mkEnt [.int .i64 op,.slice none 0 0] 0) h15)
 have q3:=g3.mono (Le.new (e:=mkEnt [.int .i64 op,.slice none 0 0] 0) h15)
 obtain ⟨a3,c3,H3,f1,f2,f3,f4,_⟩:=q2.append (ti:=IT2) (m:=1) (new:=[.int .i64 op,.slice none 0 0]) q3 g4 h16 rfl (by omega) (by decide) (by decide)
 have hl:(I++I2++[(op,([]:List Rg))]).length=I.length+I2.length+1:=by simp [List.length_append]; omega
 have:=hJ a3 c3 H3 f2 ⟨_,by rw [hl]; exact f3,(hi.app2 hi2).app (op:=op) (l:=[]) (a:=none) (c:=0) rfl⟩ f4
 rw [hl] at this
 exact ⟨1,_,knew_of (lit_kold (if_pos rfl) rfl),a3,_,c3,H3,f1,this⟩
theorem one_more {Z K:KH} {p:Nat} {s:ByteArray} {j:Nat} {b:Bool} {I:List It} {a:OA} {c:Nat} {cs:List Value} {op:Int} {J:OA->Nat->Nat->KH->Prop}
 (h:P3 Z K p s j b) (ho:Own Z K 2 a I.length c cs) (hi:ItC Z I cs) (hp:blk a≠some p) (hs:I.length<=1000)
 (hJ:∀ a' c' H',P3 Z H' p s j b->(∃ es,Own Z H' 2 a' (I++[(op,[])]).length c' es/\ItC Z (I++[(op,[])]) es)->blk a'≠some p->J a' (I++[(op,[])]).length c' H') :
 ∀ n15,K n15=none->∀ n16,(K.new n15 (mkEnt [.int .i64 op,.slice none 0 0] 0)) n16=none->∃ n17 l18,knew (K.new n15 (mkEnt [.int .i64 op,.slice none 0 0] 0)) IT2 (.slice (some ⟨n15,0,none⟩) 1 1)=some (n17,l18)/\
  ∃ a19 n20 n21 H22,kappend (K.new n15 (mkEnt [.int .i64 op,.slice none 0 0] 0)) n16 IT2 a I.length c n17 l18=some (.slice a19 n20 n21,H22)/\J a19 n20 n21 H22:=by
 intro n15 h15 n16 h16
 have q2:=h.up (Le.new (e:=mkEnt [.int .i64 op,.slice none 0 0] 0) h15)
 have q3:=ho.mono (Le.new (e:=mkEnt [.int .i64 op,.slice none 0 0] 0) h15)
 obtain ⟨a3,c3,H3,f1,f2,f3,f4,_⟩:=q2.append (ti:=IT2) (m:=1) (new:=[.int .i64 op,.slice none 0 0]) q3 hp h16 rfl (by omega) (by decide) (by decide)
 have hl:(I++[(op,([]:List Rg))]).length=I.length+1:=by simp [List.length_append]
 have:=hJ a3 c3 H3 f2 ⟨_,by rw [hl]; exact f3,hi.app (op:=op) (l:=[]) (a:=none) (c:=0) rfl⟩ f4
 rw [hl] at this
 exact ⟨1,_,knew_of (lit_kold (if_pos rfl) rfl),a3,_,c3,H3,f1,this⟩
end Go.Ew
namespace Go.Proofs.YtfhjkkbaghanhaaGreat
open Go.Ev Go.Ew
namespace Va
def CR (f:Nat) (s:ByteArray) (R:Nat->Nat->List It->Nat->Bool->Prop) (i:Nat):Prop:=∀ (X H:KH) (p deep:Nat) (Q:PQ),P3 X H p s i false->deep<=12->deep<=i->
 (∀ Z H' a c I i' b',OutR X Z H' p s a c I i i' b'->R deep i I i' b'->Q (.slice a I.length c) H')->Does (env Tryz.prog) f [.pointer (some ⟨p,0,none⟩),.int .i64 (deep:Nat)] H Q
section
variable (ok : EnvOk (env Tryz.prog)) {s : ByteArray} (hs : s.size <= 24)
include ok hs
theorem c84 {i:Nat} (hi:i<=s.size) (ih:∀ j,i<j->j<=s.size->CR 30 s (fun d i I i' b'=>AltQ s d i I i' b'/\(b'=false->peekM s i'≠124)) j):CR 84 s (AtomP s) i:=by
 intro X H p deep Q h hd hdi hq
 have hw:IntKind.wrap .i64 (((i:Nat):Int)+1)=((i+1:Nat):Int):=by rw [wrap64 (by omega) (by omega)]; omega
 have hwd:IntKind.wrap .i64 (((deep:Nat):Int)+1)=((deep+1:Nat):Int):=by rw [wrap64 (by omega) (by omega)]; omega
 have h1:=h.setAt (i+1)
 refine fn84 ok (c47 ok h ⟨_,rfl,fun h40=>?_,fun h40=>⟨fun h91=>?_,fun h91=>⟨fun h46=>?_,fun h46=>?_⟩⟩⟩)
 .have h40:peekM s i=40:=by simpa using h40
  have hlt:=nm_lt h40 (by decide)
  have hmach:∀ P O pt x,Lft s ⟨P,O,pt,x,none⟩ i=(openR ⟨P,O,pt,x,none⟩).bind fun τ=>Lft s τ (i+1):=fun P O pt x=>Lft_mark h40 (by decide) rfl (by decide) rfl
  refine ⟨rfl,_,h.c1,rfl,stOk h.c1 rfl,h.may,?_⟩
  rw [hw]
  refine ⟨fun h12=>?_,fun h12=>?_⟩
  .have h12:deep=12:=by have:=of_decide_eq_true h12; omega
   have h2:=h1.setBad
   refine ⟨rfl,stOk h1.c2 rfl,h1.may,hq X _ none 0 [] (i+1) true (OutR.nil (Le.refl _) h2 (by omega) (by omega) (fun q=>by cases q)) ?_⟩
   intro P O pt x hO hx _
   rw [hmach]
   have:openR ⟨P,O,pt,x,none⟩=none:=if_neg (by show ¬ O.length<12; omega)
   rw [this]; rfl
  .have h12:deep<12:=by have:=of_decide_eq_false h12; omega
   rw [hwd]
   refine ih (i+1) (by omega) (by omega) X _ p (deep+1) _ h1 (by omega) (by omega) fun Z H2 a c I i2 b2 hout hp=>?_
   obtain ⟨⟨pa,pb⟩,pc⟩:=hp
   refine ⟨_,_,_,rfl,c47 ok hout.pt ⟨_,rfl,fun h41=>?_,fun h41=>?_⟩⟩
   .have h41:peekM s i2≠41:=by simpa using h41
    have h3:=hout.pt.setBad
    refine ⟨rfl,stOk hout.pt.c2 rfl,hout.pt.may,hq Z _ none 0 [] i2 true (OutR.nil hout.le h3 (by have:=hout.lt; omega) hout.up (fun q=>by cases q)) ?_⟩
    intro P O pt x hO hx _
    obtain ⟨y,hy,ho⟩:=open_is (P:=P) (pt:=pt) hx (by omega:O.length<12)
    rw [hmach,ho]
    show Lft s _ (i+1)=none
    cases b2 with
    | true=>exact pa rfl _ _ (by simp; omega)
    | false =>
      obtain ⟨qe,I',pt',x',q1,q2,q3⟩:=pb rfl
      rw [q3 _ _ (by simp; omega)]
      rcases qe with qe | qe | qe
      .rw [Lft_end (by omega)]
       exact fin_open (.inr (by simp))
      .exact absurd qe (pc rfl)
      .exact absurd qe h41
   .have h41:peekM s i2=41:=by simpa using h41
    have hlt2:=nm_lt h41 (by decide)
    have hw2:IntKind.wrap .i64 (((i2:Nat):Int)+1)=((i2+1:Nat):Int):=by rw [wrap64 (by omega) (by omega)]; omega
    have h3:=hout.pt.setAt (i2+1)
    refine ⟨rfl,_,hout.pt.c1,rfl,stOk hout.pt.c1 rfl,hout.pt.may,?_⟩
    rw [hw2]
    refine hq Z _ a c I (i2+1) b2 ⟨hout.le,h3,hout.row,hout.np,by have:=hout.lt; omega,by have:=hout.lt; have:=hout.ln; omega,by omega,fun _=>by omega⟩ ?_
    intro P O pt x hO hx _
    obtain ⟨y,hy,ho⟩:=open_is (P:=P) (pt:=pt) hx (by omega:O.length<12)
    rw [hmach,ho]
    show Lft s _ (i+1)=_
    cases b2 with
    | true=>rw [if_pos rfl]; exact pa rfl _ _ (by simp; omega)
    | false =>
      rw [if_neg (by decide)]
      obtain ⟨qe,I',pt',x',q1,q2,q3⟩:=pb rfl
      rw [q3 _ _ (by simp; omega),Lft_mark h41 (by decide) rfl (by decide) rfl]
      have:markR ⟨P++Jn x++I',O++[(pt,y)],pt',x',none⟩ 41=closeR ⟨P++Jn x++I',O++[(pt,y)],pt',x',none⟩:=rfl
      rw [this,close_is q1,fins_app,<- q2]
      show Lft s ⟨_,_,_,y+1,_⟩ _=_
      rw [hy]
 .have h91:peekM s i=91:=by simpa using h91
  have hlt:=nm_lt h91 (by decide)
  refine ⟨rfl,_,h.c1,rfl,stOk h.c1 rfl,h.may,?_⟩
  rw [hw]
  have hall:∀ {σ:RdS},σ.cls=some ([],0)->_:=fun {σ} q=>class_is s (s.size+1-(i+1)) [] (i+1) σ 0 (by omega) (Nat.le_refl _) q (.inl rfl)
  refine c94 ok (i0:=i) h1 (by omega) hs (by omega) fun Z H' n hout=>⟨_,_,_,rfl,hq Z H' _ _ _ _ _ hout ?_⟩
  intro P O pt x hO hx _
  rw [Lft_mark h91 (by decide) rfl (by decide) rfl]
  have hm:markR ⟨P,O,pt,x,none⟩ 91=openC ⟨P,O,pt,x,none⟩:=rfl
  rw [hm]
  by_cases h12:O.length<12
  .have:openC ⟨P,O,pt,x,none⟩=some ⟨P,O,pt,x,some ([],0)⟩:=if_pos h12
   rw [this]
   show Lft s ⟨P,O,pt,x,some ([],0)⟩ (i+1)=_
   obtain ⟨r1,r2,_⟩:=hall (σ:=⟨P,O,pt,x,some ([],0)⟩) rfl
   cases hb:(classL s (s.size+1-(i+1)) [] (i+1) false).2.2 with
   | true=>rw [if_pos rfl]; exact r1 hb
   | false =>
     rw [if_neg (by decide),(r2 hb).2,add_is hx]
  .have:openC ⟨P,O,pt,x,none⟩=none:=if_neg h12
   rw [this]
   split
   .rfl
   .refine (Lft_short ?_).symm
    show s.size-_<O.length
    have:=hout.lt
    omega
 .have h46:peekM s i=46:=by simpa using h46
  have hlt:=nm_lt h46 (by decide)
  refine ⟨rfl,_,h.c1,rfl,stOk h.c1 rfl,h.may,?_⟩
  rw [hw]
  intro n16 h16 n17 h17
  have h2:=h1.up (Le.new (e:=mkEnt [.int .u8 32,.int .u8 126] 0) h16)
  have h16p:n16≠p:=fun q=>by
   obtain ⟨e,q1,_⟩:=h1.ex
   rw [q,q1] at h16; cases h16
  have ho:Own X ((H.put ⟨p,0+1,none⟩ [.int .i64 ((i+1:Nat):Int)]).new n16 (mkEnt [.int .u8 32,.int .u8 126] 0)) 2 (some ⟨n16,0,none⟩) ([(32,126)]:List Rg).length 1 (rgC [(32,126)]):=.lit n16 1 _ (if_pos rfl) rfl (by unfold unkU; omega) (h1.le.none h16)
  obtain ⟨Z,hout⟩:=OutR.one (i:=i) h2 ho (fun q=>h16p (by cases q; rfl)) h17 (by omega) (by omega) (fun _=>by omega)
  refine hq Z _ _ _ _ _ _ hout ?_
  intro P O pt x hO hx _
  rw [Lft_mark h46 (by decide) rfl (by decide) rfl,if_neg (by decide)]
  have hm:markR ⟨P,O,pt,x,none⟩ 46=some (addClassR ⟨P,O,pt,x,none⟩ [(32,126)]):=rfl
  rw [hm,add_is hx]; rfl
 .have h40:peekM s i≠40:=by simpa using h40
  have h91:peekM s i≠91:=by simpa using h91
  have h46:peekM s i≠46:=by simpa using h46
  refine c95 ok (all:=marksS) h (by decide) (by omega) fun H2 hp2=>⟨_,rfl,fun n4 h4 n5 h5=>?_⟩
  simp only [Bool.false_or] at hp2
  have hle:=one_le s marksS i
  have h2:=hp2.up (Le.new (e:=mkEnt [.int .u8 (oneM s marksS i).1,.int .u8 (oneM s marksS i).1] 0) h4)
  have h4p:n4≠p:=fun q=>by
   obtain ⟨e,q1,_⟩:=hp2.ex
   rw [q,q1] at h4; cases h4
  have ho:Own X (H2.new n4 (mkEnt [.int .u8 (oneM s marksS i).1,.int .u8 (oneM s marksS i).1] 0)) 2 (some ⟨n4,0,none⟩) ([((oneM s marksS i).1,(oneM s marksS i).1)]:List Rg).length 1 (rgC [((oneM s marksS i).1,(oneM s marksS i).1)]):=.lit n4 1 _ (if_pos rfl) rfl (by unfold unkU; omega) (hp2.le.none h4)
  have hgood:(oneM s marksS i).2.2=false->(oneM s marksS i).2.1<=s.size:=fun q=>(one_ok (by decide +kernel) q).1
  obtain ⟨Z,hout⟩:=OutR.one (i:=i) h2 ho (fun q=>h4p (by cases q; rfl)) h5 (by omega) (by omega) hgood
  refine hq Z _ _ _ _ _ _ hout ?_
  intro P O pt x hO hx hA
  cases hb:(oneM s marksS i).2.2 with
  | false =>
    rw [if_neg (by decide)]
    obtain ⟨e,e1,e2⟩:=one_good (sp:=marksB) spec_marks (by decide) marks_r hb
    rw [e2]
    have:takeR ⟨P,O,pt,x,none⟩ (oneM s marksS i).1 e=some (addClassR ⟨P,O,pt,x,none⟩ [((oneM s marksS i).1,(oneM s marksS i).1)]):=by
     show (if standsB (oneM s marksS i).1 e marksB=true then some (addClassR ⟨P,O,pt,x,none⟩ [((oneM s marksS i).1,(oneM s marksS i).1)]) else markR ⟨P,O,pt,x,none⟩ (oneM s marksS i).1)=_
     rw [if_pos e1]
    rw [this,add_is hx]; rfl
  | true =>
    rw [if_pos rfl]
    rcases one_bad (sp:=marksB) hi spec_marks (by decide) marks_r hb with ⟨q1,q2⟩ | ⟨hlt,c,e,q1,q2,q3,q4⟩
    .rw [q2]
     refine fin_open (.inl ?_)
     rcases hA with hA | hA
     .exact hA
     .omega
    .refine q4 _ ?_
     show (if standsB c e marksB=true then some (addClassR ⟨P,O,pt,x,none⟩ [(c,c)]) else markR ⟨P,O,pt,x,none⟩ c)=none
     rw [if_neg (by rw [q3]; decide)]
     have e0:x=0->endR ⟨P,O,pt,x,none⟩=none:=fun q=>if_pos q
     have cl0:x=0->closeR ⟨P,O,pt,x,none⟩=none:=fun q=>by
      unfold closeR
      split
      .rfl
      .rw [e0 q]
     have rp0:∀ op,x=0->repeatR ⟨P,O,pt,x,none⟩ op=none:=fun op q=>if_pos q
     have hno:c≠40/\c≠91/\c≠46/\(c=41\/c=124\/c=42\/c=43\/c=63->x=0):=by
      cases e with
      | true =>
        have hc:=q2 rfl
        refine ⟨fun q=>hc (by rw [q]; decide),fun q=>hc (by rw [q]; decide),fun q=>hc (by rw [q]; decide),fun q=>absurd ?_ hc⟩
        rcases q with q | q | q | q | q<;>rw [q]<;>decide
      | false =>
        have hc:=q1 rfl
        subst hc
        refine ⟨h40,h91,h46,fun q=>?_⟩
        rcases hA with hA | ⟨_,a1,a2,a3,a4,a5⟩
        .exact hA
        .rcases q with q | q | q | q | q
         .exact absurd q a1
         .exact absurd q a2
         .exact absurd q a3
         .exact absurd q a4
         .exact absurd q a5
     unfold markR
     rw [if_neg hno.1]
     split
     .rename_i q; exact cl0 (hno.2.2.2 (.inl q))
     rw [if_neg hno.2.1,if_neg hno.2.2.1]
     split
     .rename_i q; exact e0 (hno.2.2.2 (.inr (.inl q)))
     split
     .rename_i q; exact rp0 _ (hno.2.2.2 (.inr (.inr (.inl q))))
     split
     .rename_i q; exact rp0 _ (hno.2.2.2 (.inr (.inr (.inr (.inl q)))))
     split
     .rename_i q; exact rp0 _ (hno.2.2.2 (.inr (.inr (.inr (.inr q)))))
     .rfl
theorem c69 {i:Nat} (hi:i<=s.size) (h37:CR 84 s (AtomP s) i):CR 69 s (fun d i I i' b'=>AtomP s d i I i' b'/\(b'=false->NoSign s i')) i:=by
 intro X H p deep Q h hd hdi hq
 refine fn69 ok (h37 X H p deep _ h hd hdi fun Z H' a c I i' b' hout hp=>⟨_,_,_,rfl,?_⟩)
 unfold vc69_L2
 refine ⟨fun n3 n4 n5 a6 n7 n8 H9=>n4=p/\n5=0/\∃ Z I j b,n7=I.length/\OutR X Z H9 p s a6 n8 I i j b/\AtomP s deep i I j b/\s.size+7-j<=n3,⟨s.size+7-i',rfl,rfl,rfl,Z,I,i',b',rfl,hout,hp,Nat.le_refl _⟩,?_⟩
 rintro n3 n4 n5 a6 n7 n8 H9 ⟨rfl,rfl,Z,I,j,b,rfl,hout,hp,hm⟩
 have hup:=hout.up
 have hlt:=hout.lt
 have hln:=hout.ln
 have hw:IntKind.wrap .i64 (((j:Nat):Int)+1)=((j+1:Nat):Int):=by rw [wrap64 (by omega) (by omega)]; omega
 refine ⟨rfl,b,hout.pt.c2,fun hb=>?_,fun hb=>?_⟩
 .have hb:b=false:=by simpa using hb
  subst hb
  obtain ⟨cs,ho,hic⟩:=hout.own
  have sign:∀ (c:Int) (op:Int),peekM s j=c->c≠0->standsB c false marksB=false->c≠92->(∀ σ,markR σ c=repeatR σ op)->∀ n15,H9 n15=none->∀ n16,(H9.new n15 (mkEnt [.int .i64 op,.slice none 0 0] 0)) n16=none->∃ n17 l18,knew (H9.new n15 (mkEnt [.int .i64 op,.slice none 0 0] 0)) IT2 (.slice (some ⟨n15,0,none⟩) 1 1)=some (n17,l18)/\
   ∃ a19 n20 n21 H22,kappend (H9.new n15 (mkEnt [.int .i64 op,.slice none 0 0] 0)) n16 IT2 a6 I.length n8 n17 l18=some (.slice a19 n20 n21,H22)/\vc69_J0 H22 n4 0 n3 (fun n3 n4_1 n5 a6 n7 n8 H9=>n4_1=n4/\n5=0/\∃ Z I j b,n7=I.length/\OutR X Z H9 n4 s a6 n8 I i j b/\AtomP s deep i I j b/\s.size+7-j<=n3) a19 n20 n21:=by
   intro c op hpk hc0 hst h92 hmk
   have hjl:=nm_lt hpk hc0
   refine one_more hout.pt ho hic hout.np (by omega) fun a' c' H' g1 g2 g3=>?_
   obtain ⟨es,g2,g4⟩:=g2
   have h3:=g1.setAt (j+1)
   unfold vc69_J0
   refine ⟨rfl,_,g1.c1,rfl,stOk g1.c1 rfl,g1.may,s.size+7-(j+1),by omega,rfl,rfl,rfl,Z,I++[(op,[])],j+1,false,rfl,?_,?_,Nat.le_refl _⟩
   .rw [hw]
    exact ⟨hout.le,h3,⟨es,g2.agree fun k e q1 q2=>put_ne (fun x=>g3 (by rw [q1,x])) q2,g4⟩,g3,by omega,by rw [List.length_append]; simp only [List.length_cons,List.length_nil]; omega,by omega,fun _=>by omega⟩
   .intro P O pt x hO hx hA
    rw [hp P O pt x hO hx hA,if_neg (by decide),if_neg (by decide),Lft_mark hpk hc0 hst h92 rfl,hmk]
    have:repeatR ⟨P++Jn x++I,O,pt,Dn x,none⟩ op=some ⟨P++Jn x++(I++[(op,[])]),O,pt,Dn x,none⟩:=by
     unfold repeatR
     rw [if_neg (by show ¬ Dn x=0; unfold Dn; split<;>decide)]
     simp [putR]
    rw [this]; rfl
  refine c47 ok hout.pt ⟨_,rfl,fun h1=>?_,fun h1=>⟨fun h2=>?_,fun h2=>⟨fun h3=>?_,fun h3=>?_⟩⟩⟩
  .exact sign 42 4 (by simpa using h1) (by decide) rfl (by decide) (fun σ=>rfl)
  .exact sign 43 5 (by simpa using h2) (by decide) rfl (by decide) (fun σ=>rfl)
  .exact sign 63 6 (by simpa using h3) (by decide) rfl (by decide) (fun σ=>rfl)
  .exact hq Z _ _ _ _ _ _ hout ⟨hp,fun _=>⟨by simpa using h1,by simpa using h2,by simpa using h3⟩⟩
 .have hb:b=true:=by simpa using hb
  subst hb
  refine hq Z _ none 0 [] j true (OutR.nil hout.le hout.pt hlt hup (fun q=>by cases q)) ⟨fun P O pt x hO hx hA=>?_,fun q=>by cases q⟩
  rw [hp P O pt x hO hx hA]
  rfl
theorem c46 {i:Nat} (hi:i<=s.size) (h26:∀ j,i<=j->j<=s.size->CR 69 s (fun d i I i' b'=>AtomP s d i I i' b'/\(b'=false->NoSign s i')) j):CR 46 s (fun d i I i' b'=>JoinQ s d i I i' b'/\(b'=false->i'=s.size\/peekM s i'=124\/peekM s i'=41)) i:=by
 intro X H p deep Q h hd hdi hq
 refine fn46 ok (h26 i (Nat.le_refl _) hi X H p deep _ h hd hdi fun Z H' a c I i' b' hout hp=>⟨_,_,_,rfl,?_⟩)
 have hj0:JoinQ s deep i I i' b':=by
  refine ⟨fun hb P O pt hO=>?_,fun hb=>⟨hp.2 hb,I,1,.inl rfl,by simp [Jn],fun P O pt hO=>?_⟩⟩
  .rw [hp.1 P O pt 0 hO (.inl rfl) (.inl rfl),if_pos hb]
  .rw [hp.1 P O pt 0 hO (.inl rfl) (.inl rfl),if_neg (by rw [hb]; decide)]
   simp [Jn,Dn]
 unfold vc46_L1
 refine ⟨fun n3 n4 n5 x6 a7 n8 n9 H10=>n4=p/\n5=0/\x6=(deep:Nat)/\∃ Z I j b,n8=I.length/\OutR X Z H10 p s a7 n9 I i j b/\JoinQ s deep i I j b/\s.size+7-j<=n3,⟨s.size+7-i',rfl,rfl,rfl,rfl,Z,I,i',b',rfl,hout,hj0,Nat.le_refl _⟩,?_⟩
 rintro n3 n4 n5 x6 a7 n8 n9 H10 ⟨rfl,rfl,rfl,Z,I,j,b,rfl,hout,hp,hm⟩
 have hup:=hout.up
 have hlt:=hout.lt
 have hln:=hout.ln
 refine ⟨trivial,rfl,b,hout.pt.c2,fun hb=>?_,fun hb=>?_⟩
 .have hb:b=false:=by simpa using hb
  subst hb
  obtain ⟨hns,I',x,hx,hI,hpp⟩:=hp.2 rfl
  refine ⟨rfl,_,hout.pt.c1,rfl,_,hout.pt.c0,fun h1=>?_,fun h1=>?_⟩
  .have h1:j<s.size:=by have:=of_decide_eq_true h1; omega
   refine c47 ok hout.pt ⟨_,rfl,trivial,fun h2=>?_,fun h2=>⟨trivial,?_⟩⟩
   .have h2:peekM s j≠124:=by simpa using h2
    refine c47 ok hout.pt ⟨_,rfl,trivial,fun h3=>?_,fun h3=>?_⟩
    .have h3:peekM s j≠41:=by simpa using h3
     obtain ⟨cs,ho,hic⟩:=hout.own
     refine keepRow hout.pt ho hout.np fun K hK=>?_
     refine h26 j (by omega) (by omega) Z K n4 deep _ hK hd (by omega) fun Z2 K' a2 c2 I2 i2 b2 hout2 hp2 H' hkp=>⟨_,_,_,rfl,?_⟩
     obtain ⟨ds,ho2,hic2⟩:=hout2.own
     have hlt2:=hout2.lt
     have hln2:=hout2.ln
     have hup2:=hout2.up
     refine two_more (hout2.pt.up hkp.1) (hkp.2 Z2 hout2.pt.le) (hic.mono hout2.le) hout.np (hkp.1.kold ho2.cells) hic2 (by omega) fun a' c' H'' g1 g2 g3=>⟨s.size+7-i2,by omega,rfl,rfl,rfl,rfl,Z2,_,i2,b2,rfl,⟨hout.le.trans hout2.le,g1,g2,g3,by omega,by simp only [List.length_append,List.length_cons,List.length_nil]; omega,hup2,hout2.gd⟩,?_,Nat.le_refl _⟩
     have hA:∀ P O pt,O.length=deep->Lft s ⟨P++I',O,pt,x,none⟩ j=if b2=true then none else Lft s ⟨P++I'++Jn x++I2,O,pt,Dn x,none⟩ i2:=fun P O pt hO=>hp2.1 _ O pt x hO (by rcases hx with q | q<;>simp [q]) (.inr ⟨h1,h3,h2,hns.1,hns.2.1,hns.2.2⟩)
     refine ⟨fun hb P O pt hO=>?_,fun hb=>⟨hp2.2 hb,I++I2,2,.inr rfl,by simp [Jn],fun P O pt hO=>?_⟩⟩
     .rw [hpp P O pt hO,hA P O pt hO,if_pos hb]
     .rw [hpp P O pt hO,hA P O pt hO,if_neg (by rw [hb]; decide),hI]
      have:Dn x=2:=by rcases hx with q | q<;>subst q<;>rfl
      rw [this]
      simp
    .have h3:peekM s j=41:=by simpa using h3
     exact hq Z _ _ _ _ _ _ hout ⟨hp,fun _=>.inr (.inr h3)⟩
   .have h2:peekM s j=124:=by simpa using h2
    exact hq Z _ _ _ _ _ _ hout ⟨hp,fun _=>.inr (.inl h2)⟩
  .have h1:j=s.size:=by have:=of_decide_eq_false h1; have:=hout.gd rfl; omega
   exact ⟨trivial,trivial,hq Z _ _ _ _ _ _ hout ⟨hp,fun _=>.inl h1⟩⟩
 .have hb:b=true:=by simpa using hb
  subst hb
  exact ⟨trivial,trivial,hq Z _ _ _ _ _ _ hout ⟨hp,fun q=>by cases q⟩⟩
theorem c30 {i:Nat} (hi:i<=s.size) (h18:∀ j,i<=j->j<=s.size->CR 46 s (fun d i I i' b'=>JoinQ s d i I i' b'/\(b'=false->i'=s.size\/peekM s i'=124\/peekM s i'=41)) j):CR 30 s (fun d i I i' b'=>AltQ s d i I i' b'/\(b'=false->peekM s i'≠124)) i:=by
 intro X H p deep Q h hd hdi hq
 refine fn30 ok (h18 i (Nat.le_refl _) hi X H p deep _ h hd hdi fun Z H' a c I i' b' hout hp=>⟨_,_,_,rfl,?_⟩)
 have hj0:AltQ s deep i I i' b':=by
  refine ⟨fun hb P O hO=>hp.1.1 hb P O false hO,fun hb=>⟨hp.2 hb,?_⟩⟩
  obtain ⟨_,I',x,q1,q2,q3⟩:=hp.1.2 hb
  refine ⟨I',false,x,q1,?_,fun P O hO=>q3 P O false hO⟩
  rw [q2]; unfold fins Jn
  rcases q1 with q | q<;>subst q<;>simp
 unfold vc30_L1
 refine ⟨fun n3 n4 n5 x6 a7 n8 n9 H10=>n4=p/\n5=0/\x6=(deep:Nat)/\∃ Z I j b,n8=I.length/\OutR X Z H10 p s a7 n9 I i j b/\AltQ s deep i I j b/\s.size+7-j<=n3,⟨s.size+7-i',rfl,rfl,rfl,rfl,Z,I,i',b',rfl,hout,hj0,Nat.le_refl _⟩,?_⟩
 rintro n3 n4 n5 x6 a7 n8 n9 H10 ⟨rfl,rfl,rfl,Z,I,j,b,rfl,hout,hp,hm⟩
 have hup:=hout.up
 have hlt:=hout.lt
 have hln:=hout.ln
 have hw:IntKind.wrap .i64 (((j:Nat):Int)+1)=((j+1:Nat):Int):=by rw [wrap64 (by omega) (by omega)]; omega
 refine ⟨rfl,b,hout.pt.c2,fun hb=>?_,fun hb=>?_⟩
 .have hb:b=false:=by simpa using hb
  subst hb
  obtain ⟨hend,I',pt0,x,hx,hI,hpp⟩:=hp.2 rfl
  refine c47 ok hout.pt ⟨_,rfl,fun h1=>?_,fun h1=>?_⟩
  .have h1:peekM s j=124:=by simpa using h1
   have hjl:=nm_lt h1 (by decide)
   have h3:=hout.pt.setAt (j+1)
   obtain ⟨cs,ho,hic⟩:=hout.row (o:=1) (vs:=[.int .i64 ((j+1:Nat):Int)])
   refine ⟨rfl,_,hout.pt.c1,rfl,stOk hout.pt.c1 rfl,hout.pt.may,?_⟩
   rw [hw]
   refine keepRow h3 ho hout.np fun K hK=>?_
   refine h18 (j+1) (by omega) (by omega) Z K n4 deep _ hK hd (by omega) fun Z2 K' a2 c2 I2 i2 b2 hout2 hp2 H' hkp=>⟨_,_,_,rfl,?_⟩
   obtain ⟨ds,ho2,hic2⟩:=hout2.own
   have hlt2:=hout2.lt
   have hln2:=hout2.ln
   have hup2:=hout2.up
   refine two_more (hout2.pt.up hkp.1) (hkp.2 Z2 hout2.pt.le) (hic.mono hout2.le) hout.np (hkp.1.kold ho2.cells) hic2 (by omega) fun a' c' H'' g1 g2 g3=>⟨s.size+7-i2,by omega,rfl,rfl,rfl,rfl,Z2,_,i2,b2,rfl,⟨hout.le.trans hout2.le,g1,g2,g3,by omega,by simp only [List.length_append,List.length_cons,List.length_nil]; omega,hup2,hout2.gd⟩,?_,Nat.le_refl _⟩
   have hbar:∀ P O,O.length=deep->Lft s ⟨P++I',O,pt0,x,none⟩ j=Lft s ⟨P++I,O,true,0,none⟩ (j+1):=fun P O hO=>by
    rw [Lft_mark h1 (by decide) rfl (by decide) rfl]
    have:markR ⟨P++I',O,pt0,x,none⟩ 124=endR ⟨P++I',O,pt0,x,none⟩:=rfl
    rw [this,end_is hx,fins_app,<- hI]; rfl
   refine ⟨fun hb P O hO=>?_,fun hb=>⟨hp2.2 hb,?_⟩⟩
   .rw [hpp P O hO,hbar P O hO,hp2.1.1 hb _ O true hO]
   .obtain ⟨_,I2',x2,q1,q2,q3⟩:=hp2.1.2 hb
    refine ⟨I++I2',true,x2,q1,?_,fun P O hO=>?_⟩
    .rw [q2]; unfold fins Jn
     rcases q1 with q | q<;>subst q<;>simp
    .rw [hpp P O hO,hbar P O hO,q3 _ O true hO,List.append_assoc]
  .have h1:peekM s j≠124:=by simpa using h1
   exact hq Z _ _ _ _ _ _ hout ⟨hp,fun _=>h1⟩
 .have hb:b=true:=by simpa using hb
  subst hb
  exact hq Z _ _ _ _ _ _ hout ⟨hp,fun q=>by cases q⟩
theorem c14all:∀ (n i:Nat),s.size-i<=n->i<=s.size->CR 30 s (fun d i I i' b'=>AltQ s d i I i' b'/\(b'=false->peekM s i'≠124)) i:=by
 intro n
 induction n with
 | zero =>
   intro i hn hi
   refine c30 ok hs hi fun j hj hj2=>c46 ok hs hj2 fun k hk hk2=>c69 ok hs hk2 (c84 ok hs hk2 fun m hm hm2=>?_)
   omega
 | succ n ih =>
   intro i hn hi
   exact c30 ok hs hi fun j hj hj2=>c46 ok hs hj2 fun k hk hk2=>c69 ok hs hk2 (c84 ok hs hk2 fun m hm hm2=>ih m (by omega) hm2)
end
section
variable (ok : EnvOk (env Tryz.prog))
include ok
omit ok in
theorem parse_lft {s:ByteArray} (h1:1<=s.size) (h2:s.size<=24):parseR s=(Lft s rd0 0).map RdS.items:=by
 unfold parseR
 rw [if_neg (by omega)]
 unfold readR Lft
 rw [List.drop_zero]
 cases foldT rd0 (letL (bytesI s) false) with
 | none=>rfl
 | some σ =>
   show (match finR σ with | none=>none | some τ=>some τ.items:Option (List It))=(finR σ).map RdS.items
   cases finR σ<;>rfl
theorem c20 {s:ByteArray} {H:KH} {Q:PQ} (hn:parseR s=none->∀ H',Le H H'->Q (.tuple #[.slice none 0 0,.bool false]) H') (hq:∀ l,parseR s=some l->∀ a c H',Le H H'->ItR H' l a->SlOk H' 2 a l.length c->Q (.tuple #[.slice a l.length c,.bool true]) H'):Does (env Tryz.prog) 20 [.string s] H Q:=by
 refine fn20 ok ⟨fun h1=>?_,fun h1=>⟨fun h2=>?_,fun h2=>fun n1 hn1=>?_⟩⟩
 .have h1:=of_decide_eq_true h1
  exact hn (if_pos (by omega)) H (Le.refl _)
 .have h2:=of_decide_eq_true h2
  exact hn (if_pos (by omega)) H (Le.refl _)
 .have h1:1<=s.size:=by have:=of_decide_eq_false h1; omega
  have h2:s.size<=24:=by have:=of_decide_eq_false h2; omega
  have hpl:=parse_lft h1 h2
  have hp:P3 H (H.new n1 (mkEnt (Array.toList #[.string s,.int .i64 0,.bool false]) 0)) n1 s 0 false:=⟨Le.new hn1,hn1,_,if_pos rfl,rfl,rd_some rfl fun j v hv=>by rw [Nat.zero_add]; simp only [mkEnt,tget_wr_nil]; exact hv⟩
  refine c14all ok h2 s.size 0 (by omega) (by omega) H _ n1 0 _ hp (by omega) (by omega) fun Z H' a c I i' b' hout hp=>⟨_,_,_,rfl,rfl,b',hout.pt.c2,fun hb=>?_,fun hb=>⟨rfl,_,hout.pt.c1,fun h3=>?_,fun h3=>?_⟩⟩
  .refine hn ?_ H' (hout.le.trans hout.pt.le)
   rw [hpl]
   have:Lft s rd0 0=none:=hp.1.1 hb [] [] rfl
   rw [this]; rfl
  .have h3:i'≠s.size:=fun q=>by subst q; simp at h3
   obtain ⟨he,I',pt,x,q1,q2,q3⟩:=hp.1.2 hb
   refine hn ?_ H' (hout.le.trans hout.pt.le)
   rw [hpl]
   have q3:Lft s rd0 0=_:=q3 [] [] rfl
   rw [q3]
   rcases he with he | he | he
   .exact absurd he h3
   .exact absurd he (hp.2 hb)
   .rw [Lft_mark he (by decide) rfl (by decide) rfl]; rfl
  .have h3:i'=s.size:=by
    have:¬ ((i':Nat):Int)≠((s.size:Nat):Int):=of_decide_eq_false h3
    omega
   obtain ⟨_,I',pt,x,q1,q2,q3⟩:=hp.1.2 hb
   obtain ⟨cs,ho,hic⟩:=hout.own
   refine hq I ?_ a c H' (hout.le.trans hout.pt.le) ⟨cs,ho.cells,hic.mono hout.pt.le⟩ (ho.ok (by omega))
   rw [hpl]
   have q3:Lft s rd0 0=_:=q3 [] [] rfl
   rw [q3,Lft_end (by omega)]
   have:finR ⟨[]++I',[],pt,x,none⟩=endR ⟨[]++I',[],pt,x,none⟩:=rfl
   rw [this,end_is q1,fins_app,<- q2]; rfl
end
end Va
end Go.Proofs.YtfhjkkbaghanhaaGreat
set_option maxRecDepth 100000
namespace Go.Proofs.YtfhjkkbaghanhaaGreat
open Go.Ev Go.Ew
namespace Va
def W23 (P:Program):WE:=⟨env P,tupT,[7],mkTab [(0,[.tmp 3 .ptr,.tmp 4 (.int .i64),.tmp 12 .slice,.tmp 13 (.int .i64),.tmp 14 (.int .i64)])],23⟩
def vc23_L2 (y1:Nat) (y2:Int) (y3:OA) (y4 y5:Nat) (y6:KH) (y7:PQ):Prop :=
 (∃ (l:(Nat->Nat->Nat->Int->OA->Nat->Nat->Int->Int->KH->Prop)),(∃ (bg:Nat),(none:(Option Nat))=none/\l bg y1 0 y2 y3 y4 y5 (y4:Int) 0 y6)/\∀ (v b c:Nat) (a:Int) (m:(OA)) (n w:Nat) (i d:Int) (f:KH),l v b c a m n w i d f->(decide (d<i)=true->((0:Int)<=d/\d<(n:Int))/\∃ (x y:Nat),m=some ⟨x,y,none⟩/\∃ (z:(OA)) (aa ab:Nat),ld f ⟨x,y+((Int.toNat d)*1),none⟩ [(.slice z aa ab)]/\Does (env Tryz.prog) 35 [(.slice z aa ab)] f fun bi bf=>∃ (ac:Int) (ad:(OA)) (ae af:Nat) (ag:(OA)) (ah ai:Nat) (o:Bool),bi=(.tuple #[.agg #[.int .i64 ac,.slice ad ae af,.slice ag ah ai],.bool o])/\((!o)=true->y7 (.slice none 0 0) bf)/\((!o)=false->Does (env Tryz.prog) 36 [.pointer (some ⟨b,c,none⟩),.agg #[.int .u8 0,.int .u8 0,.int .i64 (-1),.slice none 0 0,.int .i64 (IntKind.wrap .i64 (d+1))]] bf fun bj bk=>∃ (aj:Int),bj=(.int .i64 aj)/\Does (env Tryz.prog) 37 [.pointer (some ⟨b,c,none⟩),.agg #[.int .i64 ac,.slice ad ae af,.slice ag ah ai],.int .i64 aj] bk fun bl e=>∃ (j:Int),bl=(.int .i64 j)/\True/\(none:(Option Nat))=none/\∃ (p:(OA)) (q ak:Nat),ld e ⟨b,c+0,none⟩ [(.slice p q ak)]/\(none:(Option Nat))=none/\∃ (al:(OA)) (am bh:Nat),ld e ⟨b,c+0,none⟩ [(.slice al am bh)]/\((0:Int)<=a/\a<(am:Int))/\∃ (an ao:Nat),al=some ⟨an,ao,none⟩/\(none:(Option Nat))=none/\∃ (ap:(OA)) (aq ar:Nat),ld e ⟨an,(ao+((Int.toNat a)*5))+3,none⟩ [(.slice ap aq ar)]/\∀ (g:Nat),((e g):(Option (Ent)))=none->∀ (au:Nat),(((KH.new e g (mkEnt [(.int .i64 j)] 0)) au):(Option (Ent)))=none->∃ (av:Nat) (aw:(List Value)),((knew (KH.new e g (mkEnt [(.int .i64 j)] 0)) ⟨1,8,false,5,0,0,[],[(.int .i64 0)]⟩ (.slice (some ⟨g,0,none⟩) 1 1)):(Option (Nat × (List Value))))=(some (av,aw))/\∃ (r:(OA)) (s t:Nat) (h:KH),((kappend (KH.new e g (mkEnt [(.int .i64 j)] 0)) au ⟨1,8,false,5,0,0,[],[(.int .i64 0)]⟩ ap aq ar av aw):(Option (Value × KH)))=(some (.slice r s t,h))/\(((none:(Option Nat))=none/\((.pointer (some ⟨b,c+0,none⟩)):Value)=(.pointer (some ⟨b,c+0,none⟩)))/\(∃ (ax:(OA)) (ay az:Nat),ld h ⟨b,c+0,none⟩ [(.slice ax ay az)]/\((.slice ax ay az):Value)=(.slice p q ak))/\((.int .i64 a):Value)=(.int .i64 a)/\True)/\((0:Int)<=a/\a<(q:Int))/\∃ (k u:Nat),p=some ⟨k,u,none⟩/\(none:(Option Nat))=none/\(∃ (ba:(List Value)),((List.length ba):Nat)=(List.length [(Value.slice r s t)])/\ld h ⟨k,(u+((Int.toNat a)*5))+3,none⟩ ba)/\KH.may h k/\True/\∃ (bb:Nat),(bb:Nat)<v/\(none:(Option Nat))=none/\l bb b c a m n w i (IntKind.wrap .i64 (d+1)) (KH.put h ⟨k,(u+((Int.toNat a)*5))+3,none⟩ [(.slice r s t)])))/\(decide (d<i)=false->(none:(Option Nat))=none/\∃ (bc:(OA)) (bd be:Nat),ld f ⟨b,c+0,none⟩ [(.slice bc bd be)]/\y7 (.slice bc bd be) f))
def vc23 (p0:OA) (p0n p0c:Nat) (H:KH) (Q:PQ):Prop :=
 (∀ (a:Nat),((H a):(Option (Ent)))=none->Does (env Tryz.prog) 34 [.pointer (some ⟨a,0,none⟩),.slice none 0 0] (KH.new H a (mkEnt [(.slice none 0 0)] 0)) fun c d=>∃ (b:Int),c=(.int .i64 b)/\vc23_L2 a b p0 p0n p0c d Q)
theorem fn23 (ok:EnvOk (env Tryz.prog)) {p0:OA} {p0n p0c:Nat} {H:KH} {Q:PQ} (h:vc23 p0 p0n p0c H Q):Does (env Tryz.prog) 23 [.slice p0 p0n p0c] H Q :=
 wFun_sound (W:=W23 Tryz.prog) ok.tt (blt_lt (by kernel_rfl)) (ff_of ok (by kernel_rfl) Tryz.func23) (Eq.mpr (by kernel_rfl) h)
def W34 (P:Program):WE:=⟨env P,tupT,[],mkTab [],34⟩
def vc34 (p0b p0o:Nat) (p1:OA) (p1n p1c:Nat) (H:KH) (Q:PQ):Prop :=
 Does (env Tryz.prog) 36 [.pointer (some ⟨p0b,p0o,none⟩),.agg #[.int .u8 0,.int .u8 0,.int .i64 (-1),.slice p1 p1n p1c,.int .i64 0]] H fun b c=>∃ (a:Int),b=(.int .i64 a)/\Q (.int .i64 a) c
theorem fn34 (ok:EnvOk (env Tryz.prog)) {p0b p0o:Nat} {p1:OA} {p1n p1c:Nat} {H:KH} {Q:PQ} (h:vc34 p0b p0o p1 p1n p1c H Q):Does (env Tryz.prog) 34 [.pointer (some ⟨p0b,p0o,none⟩),.slice p1 p1n p1c] H Q :=
 wFun_sound (W:=W34 Tryz.prog) ok.tt (blt_lt (by kernel_rfl)) (ff_of ok (by kernel_rfl) Tryz.func34) (Eq.mpr (by kernel_rfl) h)
def W35 (P:Program):WE:=⟨env P,tupT,[2,4],mkTab [],35⟩
def vc35 (p0:OA) (p0n p0c:Nat) (H:KH) (Q:PQ):Prop :=
 Does (env Tryz.prog) 57 [(.slice p0 p0n p0c)] H fun m k=>∃ (a:Int) (b:(OA)) (c d:Nat) (e:(OA)) (f g:Nat) (h:Bool),m=(.tuple #[.agg #[.int .i64 a,.slice b c d,.slice e f g],.bool h])/\((!h)=true->Q (.tuple #[.agg #[.int .i64 0,.slice none 0 0,.slice none 0 0],.bool false]) k)/\((!h)=false->Does (env Tryz.prog) 59 [(.agg #[.int .i64 a,.slice b c d,.slice e f g])] k fun n o=>∃ (j:ByteArray),n=(.string j)/\Does (env Tryz.prog) 58 [.string j,.slice p0 p0n p0c] o fun p l=>∃ (i:Bool),p=(.bool i)/\((!i)=true->Q (.tuple #[.agg #[.int .i64 0,.slice none 0 0,.slice none 0 0],.bool false]) l)/\((!i)=false->Q (.tuple #[.agg #[.int .i64 a,.slice b c d,.slice e f g],.bool true]) l))
theorem fn35 (ok:EnvOk (env Tryz.prog)) {p0:OA} {p0n p0c:Nat} {H:KH} {Q:PQ} (h:vc35 p0 p0n p0c H Q):Does (env Tryz.prog) 35 [.slice p0 p0n p0c] H Q :=
 wFun_sound (W:=W35 Tryz.prog) ok.tt (blt_lt (by kernel_rfl)) (ff_of ok (by kernel_rfl) Tryz.func35) (Eq.mpr (by kernel_rfl) h)
def W36 (P:Program):WE:=⟨env P,tupT,[3],mkTab [],36⟩
def vc36 (p0b p0o:Nat) (p1_0 p1_1 p1_2:Int) (p1_3:OA) (p1_3n p1_3c:Nat) (p1_4:Int) (H:KH) (Q:PQ):Prop :=
 (True/\(none:(Option Nat))=none/\∃ (f:(OA)) (g h:Nat),ld H ⟨p0b,p0o+0,none⟩ [(.slice f g h)]/\∀ (a:Nat),((H a):(Option (Ent)))=none->∀ (i:Nat),(((KH.new H a (mkEnt [.int .u8 p1_0,.int .u8 p1_1,.int .i64 p1_2,.slice p1_3 p1_3n p1_3c,.int .i64 p1_4] 0)) i):(Option (Ent)))=none->∃ (j:Nat) (k:(List Value)),((knew (KH.new H a (mkEnt [.int .u8 p1_0,.int .u8 p1_1,.int .i64 p1_2,.slice p1_3 p1_3n p1_3c,.int .i64 p1_4] 0)) ⟨5,48,true,3,0,0,[(0,1),(1,1),(2,1),(3,1),(4,1)],[.int .u8 0,.int .u8 0,.int .i64 0,.slice none 0 0,.int .i64 0]⟩ (.slice (some ⟨a,0,none⟩) 1 1)):(Option (Nat × (List Value))))=(some (j,k))/\∃ (c:(OA)) (d e:Nat) (b:KH),((kappend (KH.new H a (mkEnt [.int .u8 p1_0,.int .u8 p1_1,.int .i64 p1_2,.slice p1_3 p1_3n p1_3c,.int .i64 p1_4] 0)) i ⟨5,48,true,3,0,0,[(0,1),(1,1),(2,1),(3,1),(4,1)],[.int .u8 0,.int .u8 0,.int .i64 0,.slice none 0 0,.int .i64 0]⟩ f g h j k):(Option (Value × KH)))=(some (.slice c d e,b))/\(((.pointer (some ⟨p0b,p0o,none⟩)):Value)=(.pointer (some ⟨p0b,p0o,none⟩))/\True)/\(none:(Option Nat))=none/\(∃ (l:(List Value)),((List.length l):Nat)=(List.length [(Value.slice c d e)])/\ld b ⟨p0b,p0o+0,none⟩ l)/\KH.may b p0b/\True/\(none:(Option Nat))=none/\∃ (n:(OA)) (m o:Nat),ld (KH.put b ⟨p0b,p0o+0,none⟩ [(.slice c d e)]) ⟨p0b,p0o+0,none⟩ [(.slice n m o)]/\Q (.int .i64 (IntKind.wrap .i64 ((m:Int)-1))) (KH.put b ⟨p0b,p0o+0,none⟩ [(.slice c d e)]))
theorem fn36 (ok:EnvOk (env Tryz.prog)) {p0b p0o:Nat} {p1_0 p1_1 p1_2:Int} {p1_3:OA} {p1_3n p1_3c:Nat} {p1_4:Int} {H:KH} {Q:PQ} (h:vc36 p0b p0o p1_0 p1_1 p1_2 p1_3 p1_3n p1_3c p1_4 H Q):Does (env Tryz.prog) 36 [.pointer (some ⟨p0b,p0o,none⟩),.agg #[.int .u8 p1_0,.int .u8 p1_1,.int .i64 p1_2,.slice p1_3 p1_3n p1_3c,.int .i64 p1_4]] H Q :=
 wFun_sound (W:=W36 Tryz.prog) ok.tt (blt_lt (by kernel_rfl)) (ff_of ok (by kernel_rfl) Tryz.func36) (Eq.mpr (by kernel_rfl) h)
def W37 (P:Program):WE:=⟨env P,tupT,[4],mkTab [],37⟩
def vc37 (p0b p0o:Nat) (p1_0:Int) (p1_1:OA) (p1_1n p1_1c:Nat) (p1_2:OA) (p1_2n p1_2c:Nat) (p2:Int) (H:KH) (Q:PQ):Prop :=
 ((decide (p1_0=2)=true->True/\((0:Int)<=0/\(0:Int)<(p1_2n:Int))/\∃ (a b:Nat),p1_2=some ⟨a,b,none⟩/\∃ (e:Int) (f:(OA)) (g h:Nat) (i:(OA)) (j k:Nat),ld H ⟨a,b+((Int.toNat 0)*3),none⟩ [.int .i64 e,.slice f g h,.slice i j k]/\((0:Int)<=1/\(1:Int)<(p1_2n:Int))/\∃ (u v:Nat),p1_2=some ⟨u,v,none⟩/\∃ (w:Int) (x:(OA)) (y z:Nat) (aa:(OA)) (ab ac:Nat),ld H ⟨u,v+((Int.toNat 1)*3),none⟩ [.int .i64 w,.slice x y z,.slice aa ab ac]/\Does (env Tryz.prog) 37 [.pointer (some ⟨p0b,p0o,none⟩),.agg #[.int .i64 w,.slice x y z,.slice aa ab ac],.int .i64 p2] H fun cy cs=>∃ (ad:Int),cy=(.int .i64 ad)/\(((.pointer (some ⟨p0b,p0o,none⟩)):Value)=(.pointer (some ⟨p0b,p0o,none⟩))/\((4:Nat)=4/\((0+2):Nat)=(0+2))/\((.slice p1_2 p1_2n p1_2c):Value)=(.slice p1_2 p1_2n p1_2c)/\(((0:Int)<=0/\(0:Int)<(p1_2n:Int))/\∃ (ae af:Nat),p1_2=some ⟨ae,af,none⟩/\((.pointer (some ⟨ae,af+((Int.toNat 0)*3),none⟩)):Value)=(.pointer (some ⟨a,b+((Int.toNat 0)*3),none⟩)))/\(∃ (ag:Int) (ah:(OA)) (ai aj:Nat) (ak:(OA)) (al am:Nat),ld cs ⟨a,b+((Int.toNat 0)*3),none⟩ [.int .i64 ag,.slice ah ai aj,.slice ak al am]/\((.agg #[.int .i64 ag,.slice ah ai aj,.slice ak al am]):Value)=(.agg #[.int .i64 e,.slice f g h,.slice i j k]))/\True)/\Does (env Tryz.prog) 37 [.pointer (some ⟨p0b,p0o,none⟩),.agg #[.int .i64 e,.slice f g h,.slice i j k],.int .i64 ad] cs fun cz da=>∃ (an:Int),cz=(.int .i64 an)/\True/\Q (.int .i64 an) da)/\(decide (p1_0=2)=false->(decide (p1_0=3)=true->True/\((0:Int)<=0/\(0:Int)<(p1_2n:Int))/\∃ (ao ap:Nat),p1_2=some ⟨ao,ap,none⟩/\∃ (aq:Int) (ar:(OA)) (au av:Nat) (aw:(OA)) (ax ay:Nat),ld H ⟨ao,ap+((Int.toNat 0)*3),none⟩ [.int .i64 aq,.slice ar au av,.slice aw ax ay]/\((0:Int)<=1/\(1:Int)<(p1_2n:Int))/\∃ (c d:Nat),p1_2=some ⟨c,d,none⟩/\∃ (l:Int) (m:(OA)) (n o:Nat) (p:(OA)) (q r:Nat),ld H ⟨c,d+((Int.toNat 1)*3),none⟩ [.int .i64 l,.slice m n o,.slice p q r]/\Does (env Tryz.prog) 37 [.pointer (some ⟨p0b,p0o,none⟩),.agg #[.int .i64 aq,.slice ar au av,.slice aw ax ay],.int .i64 p2] H fun db ct=>∃ (az:Int),db=(.int .i64 az)/\(((.pointer (some ⟨p0b,p0o,none⟩)):Value)=(.pointer (some ⟨p0b,p0o,none⟩))/\((.pointer (some ⟨p0b,p0o,none⟩)):Value)=(.pointer (some ⟨p0b,p0o,none⟩))/\((4:Nat)=4/\((0+2):Nat)=(0+2))/\((.slice p1_2 p1_2n p1_2c):Value)=(.slice p1_2 p1_2n p1_2c)/\(((0:Int)<=1/\(1:Int)<(p1_2n:Int))/\∃ (ba bb:Nat),p1_2=some ⟨ba,bb,none⟩/\((.pointer (some ⟨ba,bb+((Int.toNat 1)*3),none⟩)):Value)=(.pointer (some ⟨c,d+((Int.toNat 1)*3),none⟩)))/\(∃ (bc:Int) (bd:(OA)) (be bf:Nat) (bg:(OA)) (bh bi:Nat),ld ct ⟨c,d+((Int.toNat 1)*3),none⟩ [.int .i64 bc,.slice bd be bf,.slice bg bh bi]/\((.agg #[.int .i64 bc,.slice bd be bf,.slice bg bh bi]):Value)=(.agg #[.int .i64 l,.slice m n o,.slice p q r]))/\((.int .i64 p2):Value)=(.int .i64 p2)/\True)/\Does (env Tryz.prog) 37 [.pointer (some ⟨p0b,p0o,none⟩),.agg #[.int .i64 l,.slice m n o,.slice p q r],.int .i64 p2] ct fun dc cu=>∃ (bj:Int),dc=(.int .i64 bj)/\(((.pointer (some ⟨p0b,p0o,none⟩)):Value)=(.pointer (some ⟨p0b,p0o,none⟩))/\True)/\∀ (s:Nat),((cu s):(Option (Ent)))=none->Does (env Tryz.prog) 34 [.pointer (some ⟨p0b,p0o,none⟩),.slice (some ⟨s,0,none⟩) 2 2] (KH.new cu s (mkEnt [.int .i64 az,.int .i64 bj] 0)) fun dd de=>∃ (bk:Int),dd=(.int .i64 bk)/\True/\Q (.int .i64 bk) de)/\(decide (p1_0=3)=false->(decide (p1_0=4)=true->((0:Int)<=0/\(0:Int)<(p1_2n:Int))/\∃ (bl bm:Nat),p1_2=some ⟨bl,bm,none⟩/\∃ (bn:Int) (bo:(OA)) (bp bq:Nat) (br:(OA)) (bs bt:Nat),ld H ⟨bl,bm+((Int.toNat 0)*3),none⟩ [.int .i64 bn,.slice bo bp bq,.slice br bs bt]/\Does (env Tryz.prog) 60 [.pointer (some ⟨p0b,p0o,none⟩),.agg #[.int .i64 bn,.slice bo bp bq,.slice br bs bt],.int .i64 p2] H fun df dg=>∃ (cw bu:Int),df=(.tuple #[.int .i64 cw,.int .i64 bu])/\Q (.int .i64 bu) dg)/\(decide (p1_0=4)=false->(decide (p1_0=5)=true->((0:Int)<=0/\(0:Int)<(p1_2n:Int))/\∃ (bv bw:Nat),p1_2=some ⟨bv,bw,none⟩/\∃ (bx:Int) (bz:(OA)) (ca cb:Nat) (cc:(OA)) (cd ce:Nat),ld H ⟨bv,bw+((Int.toNat 0)*3),none⟩ [.int .i64 bx,.slice bz ca cb,.slice cc cd ce]/\Does (env Tryz.prog) 60 [.pointer (some ⟨p0b,p0o,none⟩),.agg #[.int .i64 bx,.slice bz ca cb,.slice cc cd ce],.int .i64 p2] H fun dh di=>∃ (cf cx:Int),dh=(.tuple #[.int .i64 cf,.int .i64 cx])/\Q (.int .i64 cf) di)/\(decide (p1_0=5)=false->(decide (p1_0=6)=true->((0:Int)<=0/\(0:Int)<(p1_2n:Int))/\∃ (cg ch:Nat),p1_2=some ⟨cg,ch,none⟩/\∃ (ci:Int) (cj:(OA)) (ck cl:Nat) (cm:(OA)) (cn co:Nat),ld H ⟨cg,ch+((Int.toNat 0)*3),none⟩ [.int .i64 ci,.slice cj ck cl,.slice cm cn co]/\Does (env Tryz.prog) 37 [.pointer (some ⟨p0b,p0o,none⟩),.agg #[.int .i64 ci,.slice cj ck cl,.slice cm cn co],.int .i64 p2] H fun dj cv=>∃ (cp:Int),dj=(.int .i64 cp)/\∀ (t:Nat),((cv t):(Option (Ent)))=none->Does (env Tryz.prog) 34 [.pointer (some ⟨p0b,p0o,none⟩),.slice (some ⟨t,0,none⟩) 2 2] (KH.new cv t (mkEnt [.int .i64 cp,.int .i64 p2] 0)) fun dk dl=>∃ (cq:Int),dk=(.int .i64 cq)/\Q (.int .i64 cq) dl)/\(decide (p1_0=6)=false->Does (env Tryz.prog) 61 [.pointer (some ⟨p0b,p0o,none⟩),.slice p1_1 p1_1n p1_1c,.int .i64 p2] H fun dm dn=>∃ (cr:Int),dm=(.int .i64 cr)/\Q (.int .i64 cr) dn))))))
theorem fn37 (ok:EnvOk (env Tryz.prog)) {p0b p0o:Nat} {p1_0:Int} {p1_1:OA} {p1_1n p1_1c:Nat} {p1_2:OA} {p1_2n p1_2c:Nat} {p2:Int} {H:KH} {Q:PQ} (h:vc37 p0b p0o p1_0 p1_1 p1_1n p1_1c p1_2 p1_2n p1_2c p2 H Q):Does (env Tryz.prog) 37 [.pointer (some ⟨p0b,p0o,none⟩),.agg #[.int .i64 p1_0,.slice p1_1 p1_1n p1_1c,.slice p1_2 p1_2n p1_2c],.int .i64 p2] H Q :=
 wFun_sound (W:=W37 Tryz.prog) ok.tt (blt_lt (by kernel_rfl)) (ff_of ok (by kernel_rfl) Tryz.func37) (Eq.mpr (by kernel_rfl) h)
def W57 (P:Program):WE:=⟨env P,tupT,[2,6],mkTab [(0,[.ref 2 2 0,.box 2 [.int .i64 0,.slice none 0 0,.slice none 0 0],.tmp 4 .slice,.tmp 13 .slice,.tmp 14 (.int .i64),.tmp 15 (.int .i64)])],57⟩
def vc57_L3 (y1:OA) (y2 y3:Nat) (y4:KH) (y5:PQ):Prop :=
 (∃ (q:(Nat->Int->OA->Nat->Nat->OA->Nat->Nat->OA->Nat->Nat->OA->Nat->Nat->Int->Int->KH->Prop)),(∃ (be:Nat),q be 0 none 0 0 none 0 0 none 0 0 y1 y2 y3 (y2:Int) 0 y4)/\∀ (u:Nat) (v:Int) (w:(OA)) (x y:Nat) (z:(OA)) (aa ab:Nat) (i:(OA)) (a r:Nat) (s:(OA)),∀ (t ac:Nat) (j b:Int) (c:KH),q u v w x y z aa ab i a r s t ac j b c->(decide (b<j)=true->((0:Int)<=b/\b<(t:Int))/\∃ (ad ae:Nat),s=some ⟨ad,ae,none⟩/\∃ (e:Int) (k:(OA)) (d l:Nat),ld c ⟨ad,ae+((Int.toNat b)*2),none⟩ [.int .i64 e,.slice k d l]/\Does (env Tryz.prog) 77 [(.int .i64 e)] c fun bf p=>∃ (f:Int),bf=(.int .i64 f)/\(((decide (((IntKind.wrap .i64 ((a:Int)-f)):Int)<0)):Bool)=true->y5 (.tuple #[.agg #[.int .i64 0,.slice none 0 0,.slice none 0 0],.bool false]) p)/\(((decide (((IntKind.wrap .i64 ((a:Int)-f)):Int)<0)):Bool)=false->(decide ((24:Int)<(d:Int))=true->y5 (.tuple #[.agg #[.int .i64 0,.slice none 0 0,.slice none 0 0],.bool false]) p)/\(decide ((24:Int)<(d:Int))=false->∃ (af:(OA)) (ag ah:Nat),((kslice p 3 i a r (some (.int .i64 (IntKind.wrap .i64 ((a:Int)-f)))) none):(Option Value))=(some (.slice af ag ah))/\Does (env Tryz.prog) 78 [(.slice af ag ah)] p fun bg h=>∃ (m:(OA)) (n o:Nat),bg=(.slice m n o)/\True/\∃ (ai:(OA)) (aj ak:Nat),((kslice h 3 i a r none (some (.int .i64 (IntKind.wrap .i64 ((a:Int)-f))))):(Option Value))=(some (.slice ai aj ak))/\∀ (g:Nat),((h g):(Option (Ent)))=none->∀ (al:Nat),(((KH.new h g (mkEnt [.int .i64 e,.slice k d l,.slice m n o] 0)) al):(Option (Ent)))=none->∃ (am:Nat) (an:(List Value)),((knew (KH.new h g (mkEnt [.int .i64 e,.slice k d l,.slice m n o] 0)) ⟨3,56,true,3,0,0,[(0,2),(2,1)],[.int .i64 0,.slice none 0 0,.slice none 0 0]⟩ (.slice (some ⟨g,0,none⟩) 1 1)):(Option (Nat × (List Value))))=(some (am,an))/\∃ (ao:(OA)) (ap aq:Nat) (ar:KH),((kappend (KH.new h g (mkEnt [.int .i64 e,.slice k d l,.slice m n o] 0)) al ⟨3,56,true,3,0,0,[(0,2),(2,1)],[.int .i64 0,.slice none 0 0,.slice none 0 0]⟩ ai aj ak am an):(Option (Value × KH)))=(some (.slice ao ap aq,ar))/\True/\∃ (au:Nat),(au:Nat)<u/\q au v w x y z aa ab ao ap aq s t ac j (IntKind.wrap .i64 (b+1)) ar)))/\(decide (b<j)=false->(decide ((a:Int)≠1)=true->y5 (.tuple #[.agg #[.int .i64 0,.slice none 0 0,.slice none 0 0],.bool false]) c)/\(decide ((a:Int)≠1)=false->((0:Int)<=0/\(0:Int)<(a:Int))/\∃ (av aw:Nat),i=some ⟨av,aw,none⟩/\∃ (ax:Int) (ay:(OA)) (az ba:Nat) (bb:(OA)) (bc bd:Nat),ld c ⟨av,aw+((Int.toNat 0)*3),none⟩ [.int .i64 ax,.slice ay az ba,.slice bb bc bd]/\y5 (.tuple #[.agg #[.int .i64 ax,.slice ay az ba,.slice bb bc bd],.bool true]) c)))
def vc57 (p0:OA) (p0n p0c:Nat) (H:KH) (Q:PQ):Prop :=
 ((decide ((47:Int)<(p0n:Int))=true->Q (.tuple #[.agg #[.int .i64 0,.slice none 0 0,.slice none 0 0],.bool false]) H)/\(decide ((47:Int)<(p0n:Int))=false->vc57_L3 p0 p0n p0c H Q))
theorem fn57 (ok:EnvOk (env Tryz.prog)) {p0:OA} {p0n p0c:Nat} {H:KH} {Q:PQ} (h:vc57 p0 p0n p0c H Q):Does (env Tryz.prog) 57 [.slice p0 p0n p0c] H Q :=
 wFun_sound (W:=W57 Tryz.prog) ok.tt (blt_lt (by kernel_rfl)) (ff_of ok (by kernel_rfl) Tryz.func57) (Eq.mpr (by kernel_rfl) h)
def W58 (P:Program):WE:=⟨env P,tupT,[],mkTab [],58⟩
def vc58 (p0:ByteArray) (p1:OA) (p1n p1c:Nat) (H:KH) (Q:PQ):Prop :=
 Does (env Tryz.prog) 31 [(.string p0)] H fun g f=>∃ (b:(OA)) (c d:Nat) (a:Bool),g=(.tuple #[.slice b c d,.bool a])/\(a=true->Does (env Tryz.prog) 79 [.slice b c d,.slice p1 p1n p1c,.func (.func 80) #[] #[]] f fun h i=>∃ (e:Bool),h=(.bool e)/\Q (.bool e) i)/\(a=false->Q (.bool false) f)
theorem fn58 (ok:EnvOk (env Tryz.prog)) {p0:ByteArray} {p1:OA} {p1n p1c:Nat} {H:KH} {Q:PQ} (h:vc58 p0 p1 p1n p1c H Q):Does (env Tryz.prog) 58 [.string p0,.slice p1 p1n p1c] H Q :=
 wFun_sound (W:=W58 Tryz.prog) ok.tt (blt_lt (by kernel_rfl)) (ff_of ok (by kernel_rfl) Tryz.func58) (Eq.mpr (by kernel_rfl) h)
def W59 (P:Program):WE:=⟨env P,tupT,[1],mkTab [],59⟩
def vc59 (p0_0:Int) (p0_1:OA) (p0_1n p0_1c:Nat) (p0_2:OA) (p0_2n p0_2c:Nat) (H:KH) (Q:PQ):Prop :=
 ((decide (p0_0=1)=true->Does (env Tryz.prog) 81 [(.agg #[.int .i64 p0_0,.slice p0_1 p0_1n p0_1c])] H fun cq cr=>∃ (z:ByteArray),cq=(.string z)/\Q (.string z) cr)/\(decide (p0_0=1)=false->(decide (p0_0=2)=true->True/\((0:Int)<=0/\(0:Int)<(p0_2n:Int))/\∃ (aa ab:Nat),p0_2=some ⟨aa,ab,none⟩/\∃ (ac:Int) (ad:(OA)) (ae af:Nat) (ag:(OA)) (ah ai:Nat),ld H ⟨aa,ab+((Int.toNat 0)*3),none⟩ [.int .i64 ac,.slice ad ae af,.slice ag ah ai]/\((0:Int)<=1/\(1:Int)<(p0_2n:Int))/\∃ (b c:Nat),p0_2=some ⟨b,c,none⟩/\∃ (f:Int) (g:(OA)) (h i:Nat) (j:(OA)) (k l:Nat),ld H ⟨b,c+((Int.toNat 1)*3),none⟩ [.int .i64 f,.slice g h i,.slice j k l]/\Does (env Tryz.prog) 82 [.agg #[.int .i64 ac,.slice ad ae af,.slice ag ah ai],.int .i64 1] H fun cs co=>∃ (m:ByteArray),cs=(.string m)/\(((1:Nat)=1/\((0+2):Nat)=(0+2))/\((.slice p0_2 p0_2n p0_2c):Value)=(.slice p0_2 p0_2n p0_2c)/\(((0:Int)<=1/\(1:Int)<(p0_2n:Int))/\∃ (aj ak:Nat),p0_2=some ⟨aj,ak,none⟩/\((.pointer (some ⟨aj,ak+((Int.toNat 1)*3),none⟩)):Value)=(.pointer (some ⟨b,c+((Int.toNat 1)*3),none⟩)))/\(∃ (al:Int) (am:(OA)) (an ao:Nat) (ap:(OA)) (aq ar:Nat),ld co ⟨b,c+((Int.toNat 1)*3),none⟩ [.int .i64 al,.slice am an ao,.slice ap aq ar]/\((.agg #[.int .i64 al,.slice am an ao,.slice ap aq ar]):Value)=(.agg #[.int .i64 f,.slice g h i,.slice j k l]))/\True)/\Does (env Tryz.prog) 82 [.agg #[.int .i64 f,.slice g h i,.slice j k l],.int .i64 0] co fun ct cu=>∃ (n:ByteArray),ct=(.string n)/\True/\(((ByteArray.size m)+(ByteArray.size n)):Nat)<=1000000/\Q (.string (m++n)) cu)/\(decide (p0_0=2)=false->(decide (p0_0=3)=true->True/\((0:Int)<=0/\(0:Int)<(p0_2n:Int))/\∃ (au av:Nat),p0_2=some ⟨au,av,none⟩/\∃ (aw:Int) (ax:(OA)) (ay az:Nat) (ba:(OA)) (bb bc:Nat),ld H ⟨au,av+((Int.toNat 0)*3),none⟩ [.int .i64 aw,.slice ax ay az,.slice ba bb bc]/\((0:Int)<=1/\(1:Int)<(p0_2n:Int))/\∃ (d e:Nat),p0_2=some ⟨d,e,none⟩/\∃ (o:Int) (p:(OA)) (q r:Nat) (s:(OA)) (t u:Nat),ld H ⟨d,e+((Int.toNat 1)*3),none⟩ [.int .i64 o,.slice p q r,.slice s t u]/\Does (env Tryz.prog) 82 [.agg #[.int .i64 aw,.slice ax ay az,.slice ba bb bc],.int .i64 2] H fun cv cp=>∃ (a:ByteArray),cv=(.string a)/\(((1:Nat)=1/\((0+2):Nat)=(0+2))/\((.slice p0_2 p0_2n p0_2c):Value)=(.slice p0_2 p0_2n p0_2c)/\(((0:Int)<=1/\(1:Int)<(p0_2n:Int))/\∃ (bd be:Nat),p0_2=some ⟨bd,be,none⟩/\((.pointer (some ⟨bd,be+((Int.toNat 1)*3),none⟩)):Value)=(.pointer (some ⟨d,e+((Int.toNat 1)*3),none⟩)))/\(∃ (bf:Int) (bg:(OA)) (bh bi:Nat) (bj:(OA)) (bk bl:Nat),ld cp ⟨d,e+((Int.toNat 1)*3),none⟩ [.int .i64 bf,.slice bg bh bi,.slice bj bk bl]/\((.agg #[.int .i64 bf,.slice bg bh bi,.slice bj bk bl]):Value)=(.agg #[.int .i64 o,.slice p q r,.slice s t u]))/\True)/\(((ByteArray.size a)+(ByteArray.size (ByteArray.mk #[124]))):Nat)<=1000000/\Does (env Tryz.prog) 82 [.agg #[.int .i64 o,.slice p q r,.slice s t u],.int .i64 1] cp fun cw cx=>∃ (v:ByteArray),cw=(.string v)/\(((((ByteArray.size a)+(ByteArray.size (ByteArray.mk #[124]))):Nat)<=1000000/\((.string (a++(ByteArray.mk #[124]))):Value)=(.string (a++(ByteArray.mk #[124]))))/\True)/\(((ByteArray.size (a++(ByteArray.mk #[124])))+(ByteArray.size v)):Nat)<=1000000/\Q (.string ((a++(ByteArray.mk #[124]))++v)) cx)/\(decide (p0_0=3)=false->(decide (p0_0=4)=true->((0:Int)<=0/\(0:Int)<(p0_2n:Int))/\∃ (bm bn:Nat),p0_2=some ⟨bm,bn,none⟩/\∃ (bo:Int) (bp:(OA)) (bq br:Nat) (bs:(OA)) (bt bu:Nat),ld H ⟨bm,bn+((Int.toNat 0)*3),none⟩ [.int .i64 bo,.slice bp bq br,.slice bs bt bu]/\Does (env Tryz.prog) 82 [.agg #[.int .i64 bo,.slice bp bq br,.slice bs bt bu],.int .i64 0] H fun cy cz=>∃ (w:ByteArray),cy=(.string w)/\(((ByteArray.size w)+(ByteArray.size (ByteArray.mk #[42]))):Nat)<=1000000/\Q (.string (w++(ByteArray.mk #[42]))) cz)/\(decide (p0_0=4)=false->(decide (p0_0=5)=true->((0:Int)<=0/\(0:Int)<(p0_2n:Int))/\∃ (bv bw:Nat),p0_2=some ⟨bv,bw,none⟩/\∃ (bx:Int) (bz:(OA)) (ca cb:Nat) (cc:(OA)) (cd ce:Nat),ld H ⟨bv,bw+((Int.toNat 0)*3),none⟩ [.int .i64 bx,.slice bz ca cb,.slice cc cd ce]/\Does (env Tryz.prog) 82 [.agg #[.int .i64 bx,.slice bz ca cb,.slice cc cd ce],.int .i64 0] H fun da db=>∃ (x:ByteArray),da=(.string x)/\(((ByteArray.size x)+(ByteArray.size (ByteArray.mk #[43]))):Nat)<=1000000/\Q (.string (x++(ByteArray.mk #[43]))) db)/\(decide (p0_0=5)=false->(decide (p0_0=6)=true->((0:Int)<=0/\(0:Int)<(p0_2n:Int))/\∃ (cf cg:Nat),p0_2=some ⟨cf,cg,none⟩/\∃ (ch:Int) (ci:(OA)) (cj ck:Nat) (cl:(OA)) (cm cn:Nat),ld H ⟨cf,cg+((Int.toNat 0)*3),none⟩ [.int .i64 ch,.slice ci cj ck,.slice cl cm cn]/\Does (env Tryz.prog) 82 [.agg #[.int .i64 ch,.slice ci cj ck,.slice cl cm cn],.int .i64 0] H fun dc dd=>∃ (y:ByteArray),dc=(.string y)/\(((ByteArray.size y)+(ByteArray.size (ByteArray.mk #[63]))):Nat)<=1000000/\Q (.string (y++(ByteArray.mk #[63]))) dd)/\(decide (p0_0=6)=false->Q (.string (ByteArray.mk #[])) H)))))))
theorem fn59 (ok:EnvOk (env Tryz.prog)) {p0_0:Int} {p0_1:OA} {p0_1n p0_1c:Nat} {p0_2:OA} {p0_2n p0_2c:Nat} {H:KH} {Q:PQ} (h:vc59 p0_0 p0_1 p0_1n p0_1c p0_2 p0_2n p0_2c H Q):Does (env Tryz.prog) 59 [.agg #[.int .i64 p0_0,.slice p0_1 p0_1n p0_1c,.slice p0_2 p0_2n p0_2c]] H Q :=
 wFun_sound (W:=W59 Tryz.prog) ok.tt (blt_lt (by kernel_rfl)) (ff_of ok (by kernel_rfl) Tryz.func59) (Eq.mpr (by kernel_rfl) h)
def W60 (P:Program):WE:=⟨env P,tupT,[4],mkTab [],60⟩
def vc60 (p0b p0o:Nat) (p1_0:Int) (p1_1:OA) (p1_1n p1_1c:Nat) (p1_2:OA) (p1_2n p1_2c:Nat) (p2:Int) (H:KH) (Q:PQ):Prop :=
 Does (env Tryz.prog) 34 [.pointer (some ⟨p0b,p0o,none⟩),.slice none 0 0] H fun k l=>∃ (a:Int),k=(.int .i64 a)/\Does (env Tryz.prog) 37 [.pointer (some ⟨p0b,p0o,none⟩),.agg #[.int .i64 p1_0,.slice p1_1 p1_1n p1_1c,.slice p1_2 p1_2n p1_2c],.int .i64 a] l fun m d=>∃ (c:Int),m=(.int .i64 c)/\(none:(Option Nat))=none/\∃ (g:(OA)) (h j:Nat),ld d ⟨p0b,p0o+0,none⟩ [(.slice g h j)]/\∀ (b:Nat),((d b):(Option (Ent)))=none->((0:Int)<=a/\a<(h:Int))/\∃ (e f:Nat),g=some ⟨e,f,none⟩/\(none:(Option Nat))=none/\(∃ (i:(List Value)),((List.length i):Nat)=(List.length [(Value.slice (some ⟨b,0,none⟩) 2 2)])/\ld (KH.new d b (mkEnt [.int .i64 c,.int .i64 p2] 0)) ⟨e,(f+((Int.toNat a)*5))+3,none⟩ i)/\KH.may (KH.new d b (mkEnt [.int .i64 c,.int .i64 p2] 0)) e/\Q (.tuple #[.int .i64 c,.int .i64 a]) (KH.put (KH.new d b (mkEnt [.int .i64 c,.int .i64 p2] 0)) ⟨e,(f+((Int.toNat a)*5))+3,none⟩ [(.slice (some ⟨b,0,none⟩) 2 2)])
theorem fn60 (ok:EnvOk (env Tryz.prog)) {p0b p0o:Nat} {p1_0:Int} {p1_1:OA} {p1_1n p1_1c:Nat} {p1_2:OA} {p1_2n p1_2c:Nat} {p2:Int} {H:KH} {Q:PQ} (h:vc60 p0b p0o p1_0 p1_1 p1_1n p1_1c p1_2 p1_2n p1_2c p2 H Q):Does (env Tryz.prog) 60 [.pointer (some ⟨p0b,p0o,none⟩),.agg #[.int .i64 p1_0,.slice p1_1 p1_1n p1_1c,.slice p1_2 p1_2n p1_2c],.int .i64 p2] H Q :=
 wFun_sound (W:=W60 Tryz.prog) ok.tt (blt_lt (by kernel_rfl)) (ff_of ok (by kernel_rfl) Tryz.func60) (Eq.mpr (by kernel_rfl) h)
def W61 (P:Program):WE:=⟨env P,tupT,[9],mkTab [(0,[.tmp 0 .ptr,.tmp 2 (.int .i64),.tmp 7 .slice,.tmp 10 .slice,.tmp 11 (.int .i64),.tmp 12 (.int .i64)])],61⟩
def vc61_L2 (y1 y2:Nat) (y3:Int) (y4:OA) (y5 y6:Nat) (y7:KH) (y8:PQ):Prop :=
 (∃ (k:(Nat->Nat->Nat->Int->OA->Nat->Nat->OA->Nat->Nat->Int->Int->KH->Prop)),(∃ (ah:Nat),(none:(Option Nat))=none/\k ah y1 y2 y3 none 0 0 y4 y5 y6 (y5:Int) 0 y7)/\∀ (p e f:Nat) (l:Int) (g:(OA)) (b m:Nat) (n:(OA)) (o q:Nat) (h a:Int),∀ (c:KH),k p e f l g b m n o q h a c->(decide (a<h)=true->((0:Int)<=a/\a<(o:Int))/\∃ (r s:Nat),n=some ⟨r,s,none⟩/\∃ (t u:Int),ld c ⟨r,s+((Int.toNat a)*2),none⟩ [.int .u8 t,.int .u8 u]/\Does (env Tryz.prog) 36 [.pointer (some ⟨e,f,none⟩),.agg #[.int .u8 t,.int .u8 u,.int .i64 l,.slice none 0 0,.int .i64 0]] c fun ai j=>∃ (i:Int),ai=(.int .i64 i)/\∀ (d:Nat),((j d):(Option (Ent)))=none->∀ (v:Nat),(((KH.new j d (mkEnt [(.int .i64 i)] 0)) v):(Option (Ent)))=none->∃ (w:Nat) (x:(List Value)),((knew (KH.new j d (mkEnt [(.int .i64 i)] 0)) ⟨1,8,false,5,0,0,[],[(.int .i64 0)]⟩ (.slice (some ⟨d,0,none⟩) 1 1)):(Option (Nat × (List Value))))=(some (w,x))/\∃ (y:(OA)) (z aa:Nat) (ab:KH),((kappend (KH.new j d (mkEnt [(.int .i64 i)] 0)) v ⟨1,8,false,5,0,0,[],[(.int .i64 0)]⟩ g b m w x):(Option (Value × KH)))=(some (.slice y z aa,ab))/\∃ (ac:Nat),(ac:Nat)<p/\(none:(Option Nat))=none/\k ac e f l y z aa n o q h (IntKind.wrap .i64 (a+1)) ab)/\(decide (a<h)=false->(decide ((b:Int)=1)=true->((0:Int)<=0/\(0:Int)<(b:Int))/\∃ (ad ae:Nat),g=some ⟨ad,ae,none⟩/\∃ (af:Int),ld c ⟨ad,ae+((Int.toNat 0)*1),none⟩ [(.int .i64 af)]/\y8 (.int .i64 af) c)/\(decide ((b:Int)=1)=false->Does (env Tryz.prog) 34 [.pointer (some ⟨e,f,none⟩),.slice g b m] c fun aj ak=>∃ (ag:Int),aj=(.int .i64 ag)/\y8 (.int .i64 ag) ak)))
def vc61 (p0b p0o:Nat) (p1:OA) (p1n p1c:Nat) (p2:Int) (H:KH) (Q:PQ):Prop :=
 (vc61_L2 p0b p0o p2 p1 p1n p1c H Q)
theorem fn61 (ok:EnvOk (env Tryz.prog)) {p0b p0o:Nat} {p1:OA} {p1n p1c:Nat} {p2:Int} {H:KH} {Q:PQ} (h:vc61 p0b p0o p1 p1n p1c p2 H Q):Does (env Tryz.prog) 61 [.pointer (some ⟨p0b,p0o,none⟩),.slice p1 p1n p1c,.int .i64 p2] H Q :=
 wFun_sound (W:=W61 Tryz.prog) ok.tt (blt_lt (by kernel_rfl)) (ff_of ok (by kernel_rfl) Tryz.func61) (Eq.mpr (by kernel_rfl) h)
def W77 (P:Program):WE:=⟨env P,tupT,[],mkTab [],77⟩
def vc77 (p0:Int) (H:KH) (Q:PQ):Prop :=
 ((decide (p0=2)=true->Q (.int .i64 2) H)/\(decide (p0=2)=false->(decide (p0=3)=true->Q (.int .i64 2) H)/\(decide (p0=3)=false->(decide (p0=4)=true->Q (.int .i64 1) H)/\(decide (p0=4)=false->(decide (p0=5)=true->Q (.int .i64 1) H)/\(decide (p0=5)=false->(decide (p0=6)=true->Q (.int .i64 1) H)/\(decide (p0=6)=false->Q (.int .i64 0) H))))))
theorem fn77 (ok:EnvOk (env Tryz.prog)) {p0:Int} {H:KH} {Q:PQ} (h:vc77 p0 H Q):Does (env Tryz.prog) 77 [.int .i64 p0] H Q :=
 wFun_sound (W:=W77 Tryz.prog) ok.tt (blt_lt (by kernel_rfl)) (ff_of ok (by kernel_rfl) Tryz.func77) (Eq.mpr (by kernel_rfl) h)
def W78 (P:Program):WE:=⟨env P,tupT,[],mkTab [],78⟩
def vc78 (p0:OA) (p0n p0c:Nat) (H:KH) (Q:PQ):Prop :=
 ((((Option.isNone p0):Bool)=true->Q (.slice none 0 0) H)/\(((Option.isNone p0):Bool)=false->∀ (a:Nat),((H a):(Option (Ent)))=none->∀ (b:Nat),(((KH.new H a (mkEnt (lrep [.int .i64 0,.slice none 0 0,.slice none 0 0] 0) 0)) b):(Option (Ent)))=none->∃ (c:Nat) (d:(List Value)),((knew (KH.new H a (mkEnt (lrep [.int .i64 0,.slice none 0 0,.slice none 0 0] 0) 0)) ⟨3,56,true,3,0,0,[(0,2),(2,1)],[.int .i64 0,.slice none 0 0,.slice none 0 0]⟩ (.slice p0 p0n p0c)):(Option (Nat × (List Value))))=(some (c,d))/\∃ (e:(OA)) (f g:Nat) (h:KH),((kappend (KH.new H a (mkEnt (lrep [.int .i64 0,.slice none 0 0,.slice none 0 0] 0) 0)) b ⟨3,56,true,3,0,0,[(0,2),(2,1)],[.int .i64 0,.slice none 0 0,.slice none 0 0]⟩ (some ⟨a,0,none⟩) 0 0 c d):(Option (Value × KH)))=(some (.slice e f g,h))/\Q (.slice e f g) h))
theorem fn78 (ok:EnvOk (env Tryz.prog)) {p0:OA} {p0n p0c:Nat} {H:KH} {Q:PQ} (h:vc78 p0 p0n p0c H Q):Does (env Tryz.prog) 78 [.slice p0 p0n p0c] H Q :=
 wFun_sound (W:=W78 Tryz.prog) ok.tt (blt_lt (by kernel_rfl)) (ff_of ok (by kernel_rfl) Tryz.func78) (Eq.mpr (by kernel_rfl) h)
def W79 (P:Program):WE:=⟨env P,tupT,[8,9],mkTab [(0,[.tmp 1 .slice,.tmp 2 .fnk,.tmp 15 .slice,.tmp 16 (.int .i64),.tmp 17 (.int .i64)])],79⟩
def vc79_L1 (y1:OA) (y2 y3 y4:Nat) (y5:OA) (y6 y7:Nat) (y8:KH) (y9:PQ):Prop :=
 (∃ (d:(Nat->OA->Nat->Nat->Nat->List Value->OA->Nat->Nat->Int->Int->KH->Prop)),(∃ (ac:Nat),d ac y1 y2 y3 y4 (Array.toList #[]) y5 y6 y7 (y6:Int) 0 y8)/\∀ (l:Nat) (e:(OA)) (f m g:Nat) (h:(List Value)) (i:(OA)) (j n:Nat) (c a:Int) (b:KH),d l e f m g h i j n c a b->(decide (a<c)=true->((0:Int)<=a/\a<(j:Int))/\∃ (o p:Nat),i=some ⟨o,p,none⟩/\∃ (q:Int) (r:(OA)) (s t:Nat),ld b ⟨o,p+((Int.toNat a)*2),none⟩ [.int .i64 q,.slice r s t]/\((0:Int)<=a/\a<(f:Int))/\∃ (u v:Nat),e=some ⟨u,v,none⟩/\∃ (w:Int) (x:(OA)) (y z:Nat),ld b ⟨u,v+((Int.toNat a)*2),none⟩ [.int .i64 w,.slice x y z]/\Does (env Tryz.prog) g ([.agg #[.int .i64 q,.slice r s t],.agg #[.int .i64 w,.slice x y z]]++h) b fun ad ab=>∃ (k:Bool),ad=(.bool k)/\((!k)=true->y9 (.bool false) ab)/\((!k)=false->∃ (aa:Nat),(aa:Nat)<l/\d aa e f m g (Array.toList (List.toArray h)) i j n c (IntKind.wrap .i64 (a+1)) ab))/\(decide (a<c)=false->y9 (.bool true) b))
def vc79 (p0:OA) (p0n p0c:Nat) (p1:OA) (p1n p1c p2:Nat) (H:KH) (Q:PQ):Prop :=
 ((decide ((p0n:Int)≠(p1n:Int))=true->Q (.bool false) H)/\(decide ((p0n:Int)≠(p1n:Int))=false->vc79_L1 p1 p1n p1c p2 p0 p0n p0c H Q))
theorem fn79 (ok:EnvOk (env Tryz.prog)) {p0:OA} {p0n p0c:Nat} {p1:OA} {p1n p1c p2:Nat} {H:KH} {Q:PQ} (h:vc79 p0 p0n p0c p1 p1n p1c p2 H Q):Does (env Tryz.prog) 79 [.slice p0 p0n p0c,.slice p1 p1n p1c,.func (.func p2) #[] #[]] H Q :=
 wFun_sound (W:=W79 Tryz.prog) ok.tt (blt_lt (by kernel_rfl)) (ff_of ok (by kernel_rfl) Tryz.func79) (Eq.mpr (by kernel_rfl) h)
def W80 (P:Program):WE:=⟨env P,tupT,[2,3],mkTab [],80⟩
def vc80 (p0_0:Int) (p0_1:OA) (p0_1n p0_1c:Nat) (p1_0:Int) (p1_1:OA) (p1_1n p1_1c:Nat) (H:KH) (Q:PQ):Prop :=
 ((decide (p0_0=p1_0)=true->Does (env Tryz.prog) 91 [.slice p0_1 p0_1n p0_1c,.slice p1_1 p1_1n p1_1c] H fun b c=>∃ (a:Bool),b=(.bool a)/\Q (.bool a) c)/\(decide (p0_0=p1_0)=false->Q (.bool false) H))
theorem fn80 (ok:EnvOk (env Tryz.prog)) {p0_0:Int} {p0_1:OA} {p0_1n p0_1c:Nat} {p1_0:Int} {p1_1:OA} {p1_1n p1_1c:Nat} {H:KH} {Q:PQ} (h:vc80 p0_0 p0_1 p0_1n p0_1c p1_0 p1_1 p1_1n p1_1c H Q):Does (env Tryz.prog) 80 [.agg #[.int .i64 p0_0,.slice p0_1 p0_1n p0_1c],.agg #[.int .i64 p1_0,.slice p1_1 p1_1n p1_1c]] H Q :=
 wFun_sound (W:=W80 Tryz.prog) ok.tt (blt_lt (by kernel_rfl)) (ff_of ok (by kernel_rfl) Tryz.func80) (Eq.mpr (by kernel_rfl) h)
def W81 (P:Program):WE:=⟨env P,tupT,[1,8],mkTab [(2,[.tmp 6 .str,.tmp 36 .slice,.tmp 37 (.int .i64),.tmp 38 (.int .i64)]),(0,[.ref 1 1 0,.box 1 [.int .i64 0,.slice none 0 0],.tmp 23 .slice,.tmp 24 (.int .i64),.tmp 25 (.int .i64)])],81⟩
def vc81_L2 (y1:OA) (y2 y3:Nat) (y4:KH) (y5:PQ):Prop :=
 (∃ (e:(Nat->ByteArray->OA->Nat->Nat->Int->Int->KH->Prop)),(∃ (p:Nat),e p (ByteArray.mk #[]) y1 y2 y3 (y2:Int) 0 y4)/\∀ (i:Nat) (b:ByteArray) (f:(OA)) (g j:Nat) (c a:Int) (d:KH),e i b f g j c a d->(decide (a<c)=true->((0:Int)<=a/\a<(g:Int))/\∃ (k l:Nat),f=some ⟨k,l,none⟩/\∃ (m n:Int),ld d ⟨k,l+((Int.toNat a)*2),none⟩ [.int .u8 m,.int .u8 n]/\Does (env Tryz.prog) 92 [(.agg #[.int .u8 m,.int .u8 n])] d fun q r=>∃ (h:ByteArray),q=(.string h)/\(((ByteArray.size b)+(ByteArray.size h)):Nat)<=1000000/\∃ (o:Nat),(o:Nat)<i/\e o (b++h) f g j c (IntKind.wrap .i64 (a+1)) r)/\(decide (a<c)=false->(((ByteArray.size (ByteArray.mk #[91]))+(ByteArray.size b)):Nat)<=1000000/\(((ByteArray.size ((ByteArray.mk #[91])++b))+(ByteArray.size (ByteArray.mk #[93]))):Nat)<=1000000/\y5 (.string (((ByteArray.mk #[91])++b)++(ByteArray.mk #[93]))) d))
def vc81_L3 (y1:Int) (y2:OA) (y3 y4 y5:Nat) (y6:KH) (y7:Nat) (y8:Int) (y9:(List (UInt8))) (y10:PQ):Prop :=
 (∃ (g:(Nat->Int->OA->Nat->Nat->OA->Nat->Nat->Int->Int->KH->Prop)),(∃ (t:Nat),g t y1 y2 y3 y4 (some ⟨y5,0,none⟩) 3 3 (3:Int) 0 (KH.new (KH.new y6 y7 (mkEnt [(.int .u8 y8)] 0)) y5 (mkEnt [.string (ByteArray.mk #[46]),.string (ByteArray.mk (List.toArray y9)),.string ((ByteArray.mk #[92])++(ByteArray.mk (List.toArray y9)))] 0)))/\∀ (n:Nat) (h:Int) (c:(OA)) (d e:Nat) (i:(OA)) (j o:Nat) (f a:Int) (b:KH),g n h c d e i j o f a b->(decide (a<f)=true->((0:Int)<=a/\a<(j:Int))/\∃ (p q:Nat),i=some ⟨p,q,none⟩/\∃ (k:ByteArray),ld b ⟨p,q+((Int.toNat a)*1),none⟩ [(.string k)]/\∀ (l:Nat),((b l):(Option (Ent)))=none->Does (env Tryz.prog) 58 [.string k,.slice (some ⟨l,0,none⟩) 1 1] (KH.new b l (mkEnt [.int .i64 h,.slice c d e] 0)) fun u s=>∃ (m:Bool),u=(.bool m)/\(m=true->y10 (.string k) s)/\(m=false->∃ (r:Nat),(r:Nat)<n/\g r h c d e i j o f (IntKind.wrap .i64 (a+1)) s))/\(decide (a<f)=false->vc81_L2 c d e b y10))
def vc81 (p0_0:Int) (p0_1:OA) (p0_1n p0_1c:Nat) (H:KH) (Q:PQ):Prop :=
 ((decide ((p0_1n:Int)=1)=true->((0:Int)<=0/\(0:Int)<(p0_1n:Int))/\∃ (d e:Nat),p0_1=some ⟨d,e,none⟩/\(none:(Option Nat))=none/\∃ (b:Int),ld H ⟨d,(e+((Int.toNat 0)*2))+0,none⟩ [(.int .u8 b)]/\∀ (a:Nat),((H a):(Option (Ent)))=none->∃ (f:(List Value)) (c:(List (UInt8))),((kold (KH.new H a (mkEnt [(.int .u8 b)] 0)) 1 (some ⟨a,0,none⟩) 1):(Option (List Value)))=(some f)/\((bytesOfCells f):(Option (List (UInt8))))=(some c)/\(((ByteArray.size (ByteArray.mk #[92]))+(ByteArray.size (ByteArray.mk (List.toArray c)))):Nat)<=1000000/\∀ (g:Nat),(((KH.new H a (mkEnt [(.int .u8 b)] 0)) g):(Option (Ent)))=none->vc81_L3 p0_0 p0_1 p0_1n p0_1c g H a b c Q)/\(decide ((p0_1n:Int)=1)=false->vc81_L2 p0_1 p0_1n p0_1c H Q))
theorem fn81 (ok:EnvOk (env Tryz.prog)) {p0_0:Int} {p0_1:OA} {p0_1n p0_1c:Nat} {H:KH} {Q:PQ} (h:vc81 p0_0 p0_1 p0_1n p0_1c H Q):Does (env Tryz.prog) 81 [.agg #[.int .i64 p0_0,.slice p0_1 p0_1n p0_1c]] H Q :=
 wFun_sound (W:=W81 Tryz.prog) ok.tt (blt_lt (by kernel_rfl)) (ff_of ok (by kernel_rfl) Tryz.func81) (Eq.mpr (by kernel_rfl) h)
def W82 (P:Program):WE:=⟨env P,tupT,[2],mkTab [],82⟩
def vc82 (p0_0:Int) (p0_1:OA) (p0_1n p0_1c:Nat) (p0_2:OA) (p0_2n p0_2c:Nat) (p1:Int) (H:KH) (Q:PQ):Prop :=
 Does (env Tryz.prog) 93 [(.int .i64 p0_0)] H fun e d=>∃ (b:Int),e=(.int .i64 b)/\(decide (p1<b)=true->Does (env Tryz.prog) 59 [(.agg #[.int .i64 p0_0,.slice p0_1 p0_1n p0_1c,.slice p0_2 p0_2n p0_2c])] d fun f g=>∃ (a:ByteArray),f=(.string a)/\(((ByteArray.size (ByteArray.mk #[40]))+(ByteArray.size a)):Nat)<=1000000/\(((ByteArray.size ((ByteArray.mk #[40])++a))+(ByteArray.size (ByteArray.mk #[41]))):Nat)<=1000000/\Q (.string (((ByteArray.mk #[40])++a)++(ByteArray.mk #[41]))) g)/\(decide (p1<b)=false->Does (env Tryz.prog) 59 [(.agg #[.int .i64 p0_0,.slice p0_1 p0_1n p0_1c,.slice p0_2 p0_2n p0_2c])] d fun h i=>∃ (c:ByteArray),h=(.string c)/\Q (.string c) i)
theorem fn82 (ok:EnvOk (env Tryz.prog)) {p0_0:Int} {p0_1:OA} {p0_1n p0_1c:Nat} {p0_2:OA} {p0_2n p0_2c:Nat} {p1:Int} {H:KH} {Q:PQ} (h:vc82 p0_0 p0_1 p0_1n p0_1c p0_2 p0_2n p0_2c p1 H Q):Does (env Tryz.prog) 82 [.agg #[.int .i64 p0_0,.slice p0_1 p0_1n p0_1c,.slice p0_2 p0_2n p0_2c],.int .i64 p1] H Q :=
 wFun_sound (W:=W82 Tryz.prog) ok.tt (blt_lt (by kernel_rfl)) (ff_of ok (by kernel_rfl) Tryz.func82) (Eq.mpr (by kernel_rfl) h)
def W91 (P:Program):WE:=⟨env P,tupT,[],mkTab [(0,[.tmp 0 .slice,.tmp 1 .slice,.tmp 12 (.int .i64),.tmp 13 (.int .i64)])],91⟩
def vc91_L1 (y1:OA) (y2 y3:Nat) (y4:OA) (y5 y6:Nat) (y7:KH) (y8:PQ):Prop :=
 (∃ (d:(Nat->OA->Nat->Nat->OA->Nat->Nat->Int->Int->KH->Prop)),(∃ (u:Nat),d u y1 y2 y3 y4 y5 y6 (y2:Int) 0 y7)/\∀ (m:Nat) (e:(OA)) (f n:Nat) (g:(OA)) (h o:Nat) (c a:Int) (b:KH),d m e f n g h o c a b->(decide (a<c)=true->True/\((0:Int)<=a/\a<(f:Int))/\∃ (p q:Nat),e=some ⟨p,q,none⟩/\∃ (i j:Int),ld b ⟨p,q+((Int.toNat a)*2),none⟩ [.int .u8 i,.int .u8 j]/\((0:Int)<=a/\a<(h:Int))/\∃ (r s:Nat),g=some ⟨r,s,none⟩/\∃ (k l:Int),ld b ⟨r,s+((Int.toNat a)*2),none⟩ [.int .u8 k,.int .u8 l]/\(((!((decide (i=k))&&((decide (j=l))&&true))):Bool)=true->y8 (.bool false) b)/\(((!((decide (i=k))&&((decide (j=l))&&true))):Bool)=false->∃ (t:Nat),(t:Nat)<m/\d t e f n g h o c (IntKind.wrap .i64 (a+1)) b))/\(decide (a<c)=false->y8 (.bool true) b))
def vc91 (p0:OA) (p0n p0c:Nat) (p1:OA) (p1n p1c:Nat) (H:KH) (Q:PQ):Prop :=
 ((decide ((p0n:Int)≠(p1n:Int))=true->Q (.bool false) H)/\(decide ((p0n:Int)≠(p1n:Int))=false->vc91_L1 p0 p0n p0c p1 p1n p1c H Q))
theorem fn91 (ok:EnvOk (env Tryz.prog)) {p0:OA} {p0n p0c:Nat} {p1:OA} {p1n p1c:Nat} {H:KH} {Q:PQ} (h:vc91 p0 p0n p0c p1 p1n p1c H Q):Does (env Tryz.prog) 91 [.slice p0 p0n p0c,.slice p1 p1n p1c] H Q :=
 wFun_sound (W:=W91 Tryz.prog) ok.tt (blt_lt (by kernel_rfl)) (ff_of ok (by kernel_rfl) Tryz.func91) (Eq.mpr (by kernel_rfl) h)
def W92 (P:Program):WE:=⟨env P,tupT,[1],mkTab [],92⟩
def vc92 (p0_0 p0_1:Int) (H:KH) (Q:PQ):Prop :=
 ((decide (p0_0=p0_1)=true->Does (env Tryz.prog) 106 [(.int .u8 p0_0)] H fun d e=>∃ (c:ByteArray),d=(.string c)/\Q (.string c) e)/\(decide (p0_0=p0_1)=false->True/\Does (env Tryz.prog) 106 [(.int .u8 p0_0)] H fun f g=>∃ (a:ByteArray),f=(.string a)/\(((1:Nat)=1/\((0+1):Nat)=(0+1))/\((.int .u8 p0_1):Value)=(.int .u8 p0_1)/\True)/\(((ByteArray.size a)+(ByteArray.size (ByteArray.mk #[45]))):Nat)<=1000000/\Does (env Tryz.prog) 106 [(.int .u8 p0_1)] g fun h i=>∃ (b:ByteArray),h=(.string b)/\(((((ByteArray.size a)+(ByteArray.size (ByteArray.mk #[45]))):Nat)<=1000000/\((.string (a++(ByteArray.mk #[45]))):Value)=(.string (a++(ByteArray.mk #[45]))))/\True)/\(((ByteArray.size (a++(ByteArray.mk #[45])))+(ByteArray.size b)):Nat)<=1000000/\Q (.string ((a++(ByteArray.mk #[45]))++b)) i))
theorem fn92 (ok:EnvOk (env Tryz.prog)) {p0_0 p0_1:Int} {H:KH} {Q:PQ} (h:vc92 p0_0 p0_1 H Q):Does (env Tryz.prog) 92 [.agg #[.int .u8 p0_0,.int .u8 p0_1]] H Q :=
 wFun_sound (W:=W92 Tryz.prog) ok.tt (blt_lt (by kernel_rfl)) (ff_of ok (by kernel_rfl) Tryz.func92) (Eq.mpr (by kernel_rfl) h)
def W93 (P:Program):WE:=⟨env P,tupT,[],mkTab [],93⟩
def vc93 (p0:Int) (H:KH) (Q:PQ):Prop :=
 ((decide (p0=2)=true->Q (.int .i64 1) H)/\(decide (p0=2)=false->(decide (p0=3)=true->Q (.int .i64 2) H)/\(decide (p0=3)=false->Q (.int .i64 0) H)))
theorem fn93 (ok:EnvOk (env Tryz.prog)) {p0:Int} {H:KH} {Q:PQ} (h:vc93 p0 H Q):Does (env Tryz.prog) 93 [.int .i64 p0] H Q :=
 wFun_sound (W:=W93 Tryz.prog) ok.tt (blt_lt (by kernel_rfl)) (ff_of ok (by kernel_rfl) Tryz.func93) (Eq.mpr (by kernel_rfl) h)
def W106 (P:Program):WE:=⟨env P,tupT,[],mkTab [],106⟩
def vc106 (p0:Int) (H:KH) (Q:PQ):Prop :=
 (∀ (b:Nat),((H b):(Option (Ent)))=none->∃ (f:(List Value)) (a:(List (UInt8))),((kold (KH.new H b (mkEnt [(.int .u8 p0)] 0)) 1 (some ⟨b,0,none⟩) 1):(Option (List Value)))=(some f)/\((bytesOfCells f):(Option (List (UInt8))))=(some a)/\(((ByteArray.size (ByteArray.mk #[91]))+(ByteArray.size (ByteArray.mk (List.toArray a)))):Nat)<=1000000/\(((ByteArray.size ((ByteArray.mk #[91])++(ByteArray.mk (List.toArray a))))+(ByteArray.size (ByteArray.mk #[93]))):Nat)<=1000000/\∀ (c:Nat),(((KH.new H b (mkEnt [(.int .u8 p0)] 0)) c):(Option (Ent)))=none->∀ (d:Nat),(((KH.new (KH.new H b (mkEnt [(.int .u8 p0)] 0)) c (mkEnt [.int .u8 p0,.int .u8 p0] 0)) d):(Option (Ent)))=none->Does (env Tryz.prog) 58 [.string (((ByteArray.mk #[91])++(ByteArray.mk (List.toArray a)))++(ByteArray.mk #[93])),.slice (some ⟨d,0,none⟩) 1 1] (KH.new (KH.new (KH.new H b (mkEnt [(.int .u8 p0)] 0)) c (mkEnt [.int .u8 p0,.int .u8 p0] 0)) d (mkEnt [.int .i64 1,.slice (some ⟨c,0,none⟩) 1 1] 0)) fun h g=>∃ (e:Bool),h=(.bool e)/\(e=true->Q (.string (ByteArray.mk (List.toArray a))) g)/\(e=false->(((ByteArray.size (ByteArray.mk #[92]))+(ByteArray.size (ByteArray.mk (List.toArray a)))):Nat)<=1000000/\Q (.string ((ByteArray.mk #[92])++(ByteArray.mk (List.toArray a)))) g))
theorem fn106 (ok:EnvOk (env Tryz.prog)) {p0:Int} {H:KH} {Q:PQ} (h:vc106 p0 H Q):Does (env Tryz.prog) 106 [.int .u8 p0] H Q :=
 wFun_sound (W:=W106 Tryz.prog) ok.tt (blt_lt (by kernel_rfl)) (ff_of ok (by kernel_rfl) Tryz.func106) (Eq.mpr (by kernel_rfl) h)
end Va
end Go.Proofs.YtfhjkkbaghanhaaGreat
