import Derived.Test.YtlgpleiobieniaaEwS4
import Derived.IntWalk
set_option linter.unusedVariables false
set_option linter.unusedSimpArgs false
namespace Go.Ew
open Go.Ev Go.Deep
theorem Does.frame {E:Env} {g:Nat} {args:List Value} {K:KH} {p:Nat} {e:Ent} {Q:PQ} (hK:K p=none)
 (hf:Does E g args K fun v K'=>K' p=none->Q v (K'.new p e)):Does E g args (K.new p e) Q:=by
 refine ⟨hf.lt,fun h hn hh=>?_⟩
 have hp:tget h.m p=some e:=hh p e (by simp [KH.new])
 have hlt:p<h.nxt:=by
  rcases Nat.lt_or_ge p h.nxt with q | q
  .exact q
  .rw [hn p q] at hp; cases hp
 obtain ⟨v,h',K',h1,h2,h3,h4,h5,h6,h7⟩:=hf.run h hn fun k e' q=>hh k e' (by
  simp only [KH.new]
  rw [if_neg (fun ek=>by subst ek; rw [hK] at q; cases q)]
  exact q)
 have hK':K' p=none:=by
  cases hk:K' p with
  | none=>rfl
  | some e' =>
    rcases h7 p (by rw [hk]; simp) with q | q
    .exact absurd hK q
    .omega
 refine ⟨v,h',K'.new p e,h1,h2 hK',h3,fun k e' q=>?_,h5,fun k hk q=>?_,fun k q=>?_⟩
 .simp only [KH.new] at q
  by_cases ek:k=p
  .subst ek
   simp only [if_true] at q
   rw [h6 k hlt hK,hp]
   exact q
  .rw [if_neg ek] at q
   exact h4 k e' q
 .simp only [KH.new] at q
  by_cases ek:k=p
  .rw [if_pos ek] at q; cases q
  .rw [if_neg ek] at q
   exact h6 k hk q
 .simp only [KH.new] at q ⊢
  by_cases ek:k=p
  .rw [if_pos ek]; left; simp
  .rw [if_neg ek] at q ⊢
   exact h7 k q
theorem Does.more {E:Env} {g:Nat} {args:List Value} {H0 H:KH} {Q:PQ} (h:Does E g args H0 Q) (hl:Le H0 H):Does E g args H Q:=by
 refine ⟨h.lt,fun hp wf know=>?_⟩
 obtain ⟨v,h',H',h1,h2,h3,h4,h5,h6,h7⟩:=h.run hp wf fun k e q=>know k e (hl k e q)
 exact ⟨v,h',H',h1,h2,h3,h4,h5,fun k hk q=>h6 k hk (hl.none q),fun k q=>(h7 k q).imp (fun g e=>g (hl.none e)) id⟩
theorem Does.post {E:Env} {g:Nat} {args:List Value} {H:KH} {Q Q':PQ} (h:Does E g args H Q) (hq:∀ v H',Q v H'->Q' v H'):Does E g args H Q':=by
 refine ⟨h.lt,fun hp wf know=>?_⟩
 obtain ⟨v,h',H',h1,h2,h3⟩:=h.run hp wf know
 exact ⟨v,h',H',h1,hq v H' h2,h3⟩
def addL (X:KH):List (Nat × Ent)->KH
 | []=>X
 | (b,e) :: F=>(addL X F).new b e
def frL (X:KH):List (Nat × Ent)->Prop
 | []=>True
 | (b,_) :: F=>addL X F b=none/\frL X F
theorem addL_le {X:KH}:∀ {F:List (Nat × Ent)},frL X F->Le X (addL X F)
 | [],_=>Le.refl _
 | (b,e) :: F,h=>(addL_le h.2).trans (Le.new h.1)
theorem Does.frameL {E:Env} {g:Nat} {args:List Value} {X:KH}:∀ {F:List (Nat × Ent)} {Q:PQ},frL X F->(Does E g args X fun v X'=>frL X' F->Q v (addL X' F))->Does E g args (addL X F) Q
 | [],Q,_,h=>h.post fun v X' q=>q trivial
 | (b,e) :: F,Q,hf,h=>by
  refine Does.frame hf.1 (Does.frameL (F:=F) hf.2 (h.post fun v X' q h1 h2=>?_))
  exact q ⟨h2,h1⟩
theorem Does.keep {E:Env} {g:Nat} {args:List Value} {X H:KH} {F:List (Nat × Ent)} {Q:PQ} (hf:frL X F) (hl:Le (addL X F) H) (h:Does E g args X fun v X'=>frL X' F->∀ H',Le (addL X' F) H'->Q v H'):Does E g args H Q :=
 (Does.frameL hf (h.post fun v X' q h1=>q h1 _ (Le.refl _))).more hl
theorem DoesR.post {E:Env} {l:Nat} {args:List Value} {H:KH} {Q Q':PQ} (h:DoesR E l args H Q) (hq:∀ v H',Q v H'->Q' v H'):DoesR E l args H Q':=by
 refine ⟨fun hp wf know=>?_⟩
 obtain ⟨v,h',H',h1,h2,h3⟩:=h.run hp wf know
 exact ⟨v,h',H',h1,hq v H' h2,h3⟩
theorem wrap64 {x:Int} (h1 : -9223372036854775808<=x) (h2:x<=9223372036854775807):IntKind.wrap .i64 x=x:=IntWalk.i64_in x ⟨h1,h2⟩
inductive V where
 | mk (k i:Int) (s:ByteArray) (l:List V)
structure Row {α:Type} (c:α->α->Int) (x y z:α):Prop where
 neg:c y x = -c x y
 rng:c x y = -1\/c x y=0\/c x y=1
 t1:c x y<=0->c y z<=0->c x z<=0
 t2:c x y<0->c y z<=0->c x z<0
 t3:c x y<=0->c y z<0->c x z<0
theorem Own.of_lit {H:KH} {b sz n:Nat} {cs:List Value} (hb:H b=none) (h2:cs.length=n*sz) (h3:n<unkU):Own H (H.new b (mkEnt cs 0)) sz (some ⟨b,0,none⟩) n n cs :=
 .lit b n cs (by simp [KH.new]) h2 h3 hb
theorem knew_of {H:KH} {ti:TI} {a:OA} {n c:Nat} {cs:List Value} (h:kold H ti.size a n=some cs):knew H ti (.slice a n c)=some (n,cs):=by
 cases a with
 | none =>
   unfold kold at h
   unfold knew
   cases hn:Nat.beq n 0<;>simp [hn] at h ⊢
   subst h
   exact ⟨(Nat.eq_of_beq_eq_true hn).symm,rfl⟩
 | some b=>unfold knew; simp only [h,ob]
abbrev Rg:=Int × Int
abbrev It:=Int × List Rg
structure RdS where
 items:List It
 outer:List (Bool × Int)
 parted:Bool
 atoms:Int
 cls:Option (List Rg × Int)
def putR (σ:RdS) (op:Int):RdS:={ σ with items:=σ.items++[(op,[])] }
def joinR (σ:RdS):RdS:=if σ.atoms=2 then { putR σ 2 with atoms:=1 } else σ
def addClassR (σ:RdS) (l:List Rg):RdS:={ joinR σ with items:=(joinR σ).items++[(1,l)],atoms:=(joinR σ).atoms+1 }
def repeatR (σ:RdS) (op:Int):Option RdS:=if σ.atoms=0 then none else some (putR σ op)
def endR (σ:RdS):Option RdS:=if σ.atoms=0 then none else some { (if (joinR σ).parted=true then putR (joinR σ) 3 else joinR σ) with parted:=true,atoms:=0 }
def openR (σ:RdS):Option RdS:=if σ.outer.length<12 then some { joinR σ with outer:=(joinR σ).outer++[((joinR σ).parted,(joinR σ).atoms)],parted:=false,atoms:=0 } else none
def closeR (σ:RdS):Option RdS:=match σ.outer.getLast? with
 | none=>none
 | some g=>match endR σ with
   | none=>none
   | some τ=>some { τ with outer:=σ.outer.dropLast,parted:=g.1,atoms:=g.2+1 }
def openC (σ:RdS):Option RdS:=if σ.outer.length<12 then some { σ with cls:=some ([],0) } else none
def addC (l:List Rg) (place c:Int):Option (List Rg × Int):=if place≠2 then some (l++[(c,c)],1) else match l.getLast? with
 | none=>none
 | some r=>if c<r.1 then none else some (l.dropLast++[(r.1,c)],0)
def wholeC (l:List Rg) (place:Int):Bool:=decide (0<l.length)&&decide (place≠2)
def marksB:List Int:=[40,41,91,93,124,42,43,63,46,92]
def clsB:List Int:=[93,45,92]
def standsB (c:Int) (esc:Bool) (sp:List Int):Bool:=decide (32<=c)&&(decide (c<=126)&&(decide (c∈sp) == esc))
def markR (σ:RdS) (c:Int):Option RdS :=
 if c=40 then openR σ else if c=41 then closeR σ else if c=91 then openC σ else if c=46 then some (addClassR σ [(32,126)]) else if c=124 then endR σ else
 if c=42 then repeatR σ 4 else if c=43 then repeatR σ 5 else if c=63 then repeatR σ 6 else none
def inClassR (σ:RdS) (l:List Rg) (place c:Int) (esc:Bool):Option RdS :=
 if standsB c esc clsB=true then (match addC l place c with
  | some x=>some { σ with cls:=some x }
  | none=>none)
 else if c=45 then (if place=1 then some { σ with cls:=some (l,2) } else none)
 else if c=93 then (if wholeC l place=true then some { addClassR σ l with cls:=none } else none)
 else none
def takeR (σ:RdS) (c:Int) (esc:Bool):Option RdS:=match σ.cls with
 | some (l,place)=>inClassR σ l place c esc
 | none=>if standsB c esc marksB=true then some (addClassR σ [(c,c)]) else markR σ c
def finR (σ:RdS):Option RdS:=match σ.cls with
 | some _=>none
 | none=>if σ.outer.length=0 then endR σ else none
def rgC (l:List Rg):List Value:=l.flatMap fun r=>[.int .u8 r.1,.int .u8 r.2]
def grC (l:List (Bool × Int)):List Value:=l.flatMap fun g=>[.bool g.1,.int .i64 g.2]
def ItC (X:KH):List It->List Value->Prop
 | [],cs=>cs=[]
 | (op,l) :: r,cs=>∃ a c ds,cs = .int .i64 op :: .slice a l.length c :: ds/\kold X 2 a l.length=some (rgC l)/\ItC X r ds
theorem ItC.mono {X X':KH} (h:Le X X'):∀ {l:List It} {cs:List Value},ItC X l cs->ItC X' l cs
 | [],cs,q=>q
 | (op,l) :: r,cs,⟨a,c,ds,h1,h2,h3⟩=>⟨a,c,ds,h1,h.kold h2,ItC.mono h h3⟩
theorem ItC.app {X:KH} {op:Int} {l:List Rg} {a:OA} {c:Nat} (hk:kold X 2 a l.length=some (rgC l)):∀ {r:List It} {cs:List Value},ItC X r cs->ItC X (r++[(op,l)]) (cs++[.int .i64 op,.slice a l.length c])
 | [],cs,q=>by
   have q:cs=[]:=q
   subst q
   exact ⟨a,c,[],rfl,hk,rfl⟩
 | (op',l') :: r,cs,⟨a',c',ds,h1,h2,h3⟩=>by
  subst h1
  exact ⟨a',c',_,rfl,h2,ItC.app hk h3⟩
inductive Gr (H:KH) (sz:Nat):OA->Nat->Nat->List Value->List Value->Prop where
 | nil:Gr H sz none 0 0 [] []
 | on (b n:Nat) (e:Ent) (cs ex:List Value) (h1:H b=some e) (h2:e.unk=sz) (h3:e.len=(cs++ex).length) (h4:rd e.cells 0 (cs++ex).length=some (cs++ex)) (h5:wrB e=true) (h6:cs.length=n*sz):Gr H sz (some ⟨b,0,none⟩) n unkU cs ex
theorem grC_len:∀ l:List (Bool × Int),(grC l).length=l.length*2
 | []=>rfl
 | g :: l=>by
   have:=grC_len l
   simp only [grC,List.flatMap_cons,List.length_append,List.length_cons,List.length_nil] at this ⊢
   omega
theorem rgC_len:∀ l:List Rg,(rgC l).length=l.length*2
 | []=>rfl
 | g :: l=>by
   have:=rgC_len l
   simp only [rgC,List.flatMap_cons,List.length_append,List.length_cons,List.length_nil] at this ⊢
   omega
theorem grC_app (l m:List (Bool × Int)):grC (l++m)=grC l++grC m:=by simp [grC]
theorem rgC_app (l m:List Rg):rgC (l++m)=rgC l++rgC m:=by simp [rgC]
theorem ldSub {H:KH} {b o:Nat} {cs:List Value} (h:ld H ⟨b,o,none⟩ cs) (j m:Nat) (hj:j+m<=cs.length):ld H ⟨b,o+j,none⟩ ((cs.drop j).take m):=by
 obtain ⟨_,e,he,hr⟩:=h
 have h1:=rd_drop hr (m:=j) (by omega)
 have h2:=rd_take h1 (m:=m) (by omega)
 refine ⟨rfl,e,he,?_⟩
 have:((cs.drop j).take m).length=m:=by simp; omega
 rw [this]
 exact h2
theorem Gr.row {H:KH} {sz n c:Nat} {a:OA} {cs ex:List Value} (h:Gr H sz a n c cs ex):kold H sz a n=some cs:=by
 cases h with
 | nil=>rfl
 | on b _ e _ _ h1 h2 h3 h4 h5 h6 =>
   refine kold_some.2 ⟨e,h1,?_⟩
   have:=rd_take h4 (m:=n*sz) (by simp; omega)
   rw [<- h6,List.take_left] at this
   rw [<- h6]
   exact this
theorem Gr.agree {H H':KH} {sz n c:Nat} {a:OA} {cs ex:List Value} (h:Gr H sz a n c cs ex) (hk:∀ k e,blk a=some k->H k=some e->H' k=some e):Gr H' sz a n c cs ex:=by
 cases h with
 | nil=>exact .nil
 | on b _ e _ _ h1 h2 h3 h4 h5 h6=>exact .on b n e cs ex (hk b e rfl h1) h2 h3 h4 h5 h6
theorem rdWr {e:BT (Option Value)} {N o:Nat} {xs ys zs vs:List Value} (h:rd e 0 N=some (xs++ys++zs)) (hx:xs.length=o) (hy:ys.length=vs.length):rd (wr e o vs) 0 N=some (xs++vs++zs):=by
 have hl:=rd_len h
 refine rd_some (by simp at hl ⊢; omega) fun j v hv=>?_
 rw [Nat.zero_add,tget_wr]
 by_cases hb:o<=j/\j<o+vs.length
 .rw [if_pos hb]
  rw [List.append_assoc,List.getElem?_append_right (by omega),List.getElem?_append_left (by omega)] at hv
  rw [hx] at hv
  exact hv
 .rw [if_neg hb]
  have:=rd_get h j v ?_
  .simpa using this
  .by_cases hj:j<o
   .rw [List.append_assoc,List.getElem?_append_left (by omega)] at hv ⊢
    exact hv
   .rw [List.getElem?_append_right (by simp; omega)] at hv ⊢
    simp only [List.length_append] at hv ⊢
    rw [hy]
    exact hv
theorem Gr.append {H:KH} {ti:TI} {n c nm:Nat} {a:OA} {cs ex new:List Value} (h:Gr H ti.size a n c cs ex) (hnm:H nm=none) (hm:new.length=ti.size) (hs:n+1<=1000000) (hb:ti.bytes<=1000000) (hz:1<=ti.size) (hro:ti.size<=1000000:=by decide) :
 ∃ a' H' ex',kappend H nm ti a n c 1 new=some (.slice a' (n+1) unkU,H')/\Gr H' ti.size a' (n+1) unkU (cs++new) ex'/\(ex=[]->ex'=[])/\(∀ k e,H k=some e->blk a≠some k->H' k=some e)/\(∀ b,blk a'=some b->blk a=some b\/b=nm):=by
 have hh:(Nat.ble (n+1) 1000000&&Nat.ble ti.bytes 1000000&&Nat.ble 1 ti.size)=true:=by
  simp only [Bool.and_eq_true]
  exact ⟨⟨Nat.ble_eq_true_of_le hs,Nat.ble_eq_true_of_le hb⟩,Nat.ble_eq_true_of_le hz⟩
 have hwn:∀ cs,wrB (mkEnt cs ti.size)=true:=fun cs=>by
  unfold wrB mkEnt noOb
  have:Nat.beq ti.size roU=false:=by
   cases hb:Nat.beq ti.size roU with
   | false=>rfl
   | true=>have:=Nat.eq_of_beq_eq_true hb; unfold roU at this; omega
  simp [this]
 have hlt0:∀ p q:Nat,¬ p<=q->Nat.ble p q=false:=fun p q hh=>by
  cases hb:Nat.ble p q with
  | false=>rfl
  | true=>exact absurd (Nat.le_of_ble_eq_true hb) hh
 have mk:∀ H1:KH,cs.length=n*ti.size->Gr (H1.new nm (mkEnt (cs++new) ti.size)) ti.size (some ⟨nm,0,none⟩) (n+1) unkU (cs++new) []:=by
  intro H1 hcl
  refine .on nm _ (mkEnt (cs++new) ti.size) _ _ (by simp [KH.new]) rfl (by simp [mkEnt]) ?_ (hwn _) (by simp [hcl,hm,Nat.add_mul])
  rw [List.append_nil]
  exact rd_some rfl fun j v hv=>by rw [Nat.zero_add]; simp only [mkEnt,tget_wr_nil]; exact hv
 cases h with
 | nil =>
   have hb0:Nat.blt 0 unkU=true:=rfl
   unfold kappend
   simp only [hh,cond_true,hb0]
   rw [hlt0 (0+1) 0 (by omega)]
   simp only [cond_false]
   exact ⟨_,_,[],rfl,mk H (by simp),fun _=>rfl,fun k e q _=>Le.new hnm k e q,fun b q=>by cases q; exact .inr rfl⟩
 | on b _ e _ _ h1 h2 h3 h4 h5 h6 =>
   have hb0:Nat.blt unkU unkU=false:=rfl
   unfold kappend
   have hq:(Nat.beq e.unk ti.size&&Nat.beq 0 ((unkU-unkU)*ti.size)&&(none:Option Nat).isNone&&wrB e)=true:=by
    rw [h2,Nat.sub_self,Nat.zero_mul,h5]
    simp
   simp only [hh,cond_true,hb0,cond_false,h1,hq]
   have hlen:(cs++ex).length=n*ti.size+ex.length:=by simp [h6]
   by_cases hin:(n+1)*ti.size<=e.len
   .rw [show Nat.ble (0+(n+1)*ti.size) e.len=true from Nat.ble_eq_true_of_le (by omega)]
    have hex:ti.size<=ex.length:=by rw [h3,hlen,Nat.add_mul] at hin; omega
    have hrd:rd e.cells (0+n*ti.size) new.length=some (ex.take ti.size):=by
     have r1:=rd_drop h4 (m:=n*ti.size) (by omega)
     rw [hlen] at r1
     have r2:=rd_take r1 (m:=ti.size) (by simp; omega)
     rw [hm,<- h6] 
     rw [<- h6] at r2
     rw [List.drop_left] at r2
     exact r2
    have hst:kstore H ⟨b,0+n*ti.size,none⟩ new=some (H.put ⟨b,0+n*ti.size,none⟩ new):=by
     unfold kstore
     simp only [h1,h5,cond_true,hrd]
    simp only [cond_true,hst,ob]
    have hne:∀ k e',H k=some e'->k≠b->(H.put ⟨b,0+n*ti.size,none⟩ new) k=some e':=fun k e' q hk=>by
     simp only [KH.put]; rw [if_neg hk]; exact q
    refine ⟨_,_,ex.drop ti.size,rfl,?_,fun q=>by rw [q]; simp,fun k e' q hk=>hne k e' q (fun x=>hk (by rw [x]; rfl)),fun b' q=>.inl q⟩
    refine .on b _ ⟨wr e.cells (0+n*ti.size) new,e.len,e.unk,none⟩ _ _ (by simp only [KH.put,if_true,h1,Option.map_some]) h2 ?_ ?_ (wrB_keep h5) (by simp [h6,hm,Nat.add_mul])
    .simp only [List.length_append,List.length_drop] at h3 ⊢
     omega
    .have hl2:(cs++new++ex.drop ti.size).length=(cs++ex).length:=by simp only [List.length_append,List.length_drop]; omega
     rw [hl2]
     have he:cs++ex=cs++ex.take ti.size++ex.drop ti.size:=by rw [List.append_assoc,List.take_append_drop]
     have h4':rd e.cells 0 (cs++ex).length=some (cs++ex.take ti.size++ex.drop ti.size):=by rw [<- he]; exact h4
     exact rdWr h4' (by rw [h6,Nat.zero_add]) (by simp only [List.length_take,hm]; omega)
   .rw [hlt0 _ _ (by omega)]
    simp only [cond_false]
    have hrd:rd e.cells 0 (n*ti.size)=some cs:=by
     have:=rd_take h4 (m:=n*ti.size) (by omega)
     rw [<- h6,List.take_left] at this
     rw [<- h6]
     exact this
    simp only [hrd,ob]
    refine ⟨_,_,[],rfl,mk (H.del b) h6,fun _=>rfl,fun k e' q hne=>?_,fun b' q=>by cases q; exact .inr rfl⟩
    simp only [KH.new,KH.del]
    rw [if_neg (fun e1=>by subst e1; rw [hnm] at q; cases q),if_neg (fun e1=>hne (by rw [e1]; rfl))]
    exact q
def U8 (K:KH) (a:OA) (n:Nat):Prop:=∀ i,i<n->∃ b o x,a=some ⟨b,o,none⟩/\ld K ⟨b,o+i,none⟩ [.int .u8 x]/\0<=x/\x<=255
structure PK (K:KH) (p:Nat) (H:KH):Prop where
 out:K p=none
 ex:∃ e a n c j,H=K.new p e/\wrB e=true/\rd e.cells 0 2=some [.slice a n c,.int .i64 j]/\0<=j/\n<=1000000/\U8 K a n
structure Pt (X H:KH) (p:Nat) (cs:List Value):Prop where
 le:Le X H
 xp:X p=none
 ex:∃ e,H p=some e/\wrB e=true/\rd e.cells 0 7=some cs
theorem Pt.ld {X H:KH} {p:Nat} {cs:List Value} (h:Pt X H p cs):ld H ⟨p,0,none⟩ cs:=by
 obtain ⟨e,h1,h2,h3⟩:=h.ex
 exact ⟨rfl,e,h1,by rw [rd_len h3]; exact h3⟩
theorem Pt.may {X H:KH} {p:Nat} {cs:List Value} (h:Pt X H p cs):KH.may H p:=by
 obtain ⟨e,h1,h2,h3⟩:=h.ex
 exact ⟨e,h1,h2⟩
theorem Pt.put {X H:KH} {p o:Nat} {a b c vs:List Value} (h:Pt X H p (a++b++c)) (ha:a.length=o) (hb:b.length=vs.length):Pt X (H.put ⟨p,o,none⟩ vs) p (a++vs++c):=by
 obtain ⟨e,h1,h2,h3⟩:=h.ex
 refine ⟨fun k e' q=>?_,h.xp,⟨wr e.cells o vs,e.len,e.unk,none⟩,by simp only [KH.put,if_true,h1,Option.map_some],wrB_keep h2,rdWr h3 ha hb⟩
 simp only [KH.put]
 rw [if_neg (fun x=>by rw [x,h.xp] at q; cases q)]
 exact h.le k e' q
theorem put_ne {H:KH} {p o:Nat} {vs:List Value} {k:Nat} {e:Ent} (hk:k≠p) (q:H k=some e):(H.put ⟨p,o,none⟩ vs) k=some e:=by
 simp only [KH.put]; rw [if_neg hk]; exact q
theorem Pt.agree {X X' H H':KH} {p:Nat} {cs:List Value} (h:Pt X H p cs) (hl:Le X' H') (hx:X' p=none) (hp:∀ e,H p=some e->H' p=some e):Pt X' H' p cs:=by
 obtain ⟨e,h1,h2,h3⟩:=h.ex
 exact ⟨hl,hx,e,hp e h1,h2,h3⟩
structure Co (X H:KH) (p:Nat) (σ:RdS) (kc:List Value) (ai:OA) (ci:Nat) (ao:OA) (co:Nat) (csI exo:List Value):Prop where
 pt:Pt X H p ([.slice ai σ.items.length ci,.slice ao σ.outer.length co,.bool σ.parted,.int .i64 σ.atoms]++kc)
 xi:∀ b,blk ai=some b->X b=none/\b≠p
 xo:∀ b,blk ao=some b->X b=none/\b≠p/\blk ai≠some b
 items:Gr H 2 ai σ.items.length ci csI []
 itc:ItC X σ.items csI
 outer:Gr H 2 ao σ.outer.length co (grC σ.outer) exo
 small:(0<=σ.atoms/\σ.atoms<=2)/\σ.outer.length<=12/\∀ g∈σ.outer,0<=g.2/\g.2<=1
def CoX (X H:KH) (p:Nat) (σ:RdS) (kc:List Value):Prop:=∃ ai ci ao co csI exo,Co X H p σ kc ai ci ao co csI exo
section
variable {X H : KH} {p : Nat} {σ : RdS} {kc : List Value} {ai : OA} {ci : Nat} {ao : OA} {co : Nat} {csI exo : List Value}
theorem Co.c0 (h:Co X H p σ kc ai ci ao co csI exo):ld H ⟨p,0,none⟩ [.slice ai σ.items.length ci]:=by
 have:=ldSub h.pt.ld 0 1 (by simp)
 simpa using this
theorem Co.c1 (h:Co X H p σ kc ai ci ao co csI exo):ld H ⟨p,1,none⟩ [.slice ao σ.outer.length co]:=by
 have:=ldSub h.pt.ld 1 1 (by simp)
 simpa using this
theorem Co.c2 (h:Co X H p σ kc ai ci ao co csI exo):ld H ⟨p,2,none⟩ [.bool σ.parted]:=by
 have:=ldSub h.pt.ld 2 1 (by simp)
 simpa using this
theorem Co.c3 (h:Co X H p σ kc ai ci ao co csI exo):ld H ⟨p,3,none⟩ [.int .i64 σ.atoms]:=by
 have:=ldSub h.pt.ld 3 1 (by simp)
 simpa using this
theorem Co.c82 (h:Co X H p σ kc ai ci ao co csI exo):ld H ⟨p,2,none⟩ [.bool σ.parted,.int .i64 σ.atoms]:=by
 have:=ldSub h.pt.ld 2 2 (by simp)
 simpa using this
theorem Co.setNow (h:Co X H p σ kc ai ci ao co csI exo) {b:Bool} {n:Int} (hn:0<=n/\n<=2):Co X (H.put ⟨p,2,none⟩ [.bool b,.int .i64 n]) p { σ with parted:=b,atoms:=n } kc ai ci ao co csI exo where
 pt:=by
  have:=h.pt
  have:=Pt.put (o:=2) (a:=[.slice ai σ.items.length ci,.slice ao σ.outer.length co]) (b:=[.bool σ.parted,.int .i64 σ.atoms]) (c:=kc) (vs:=[.bool b,.int .i64 n]) (by simpa using this) rfl rfl
  simpa using this
 xi:=h.xi
 xo:=h.xo
 items:=h.items.agree fun k e hk q=>put_ne (h.xi k hk).2 q
 itc:=h.itc
 outer:=h.outer.agree fun k e hk q=>put_ne (h.xo k hk).2.1 q
 small:=⟨hn,h.small.2⟩
theorem Co.setAtoms (h:Co X H p σ kc ai ci ao co csI exo) {n:Int} (hn:0<=n/\n<=2):Co X (H.put ⟨p,3,none⟩ [.int .i64 n]) p { σ with atoms:=n } kc ai ci ao co csI exo where
 pt:=by
  have:=h.pt
  have:=Pt.put (o:=3) (a:=[.slice ai σ.items.length ci,.slice ao σ.outer.length co,.bool σ.parted]) (b:=[.int .i64 σ.atoms]) (c:=kc) (vs:=[.int .i64 n]) (by simpa using this) rfl rfl
  simpa using this
 xi:=h.xi
 xo:=h.xo
 items:=h.items.agree fun k e hk q=>put_ne (h.xi k hk).2 q
 itc:=h.itc
 outer:=h.outer.agree fun k e hk q=>put_ne (h.xo k hk).2.1 q
 small:=⟨hn,h.small.2⟩
theorem Gr.at (h:Gr H 2 ai ci co csI exo) {b:Nat} (hb:blk ai=some b):∃ e,H b=some e:=by
 cases h with
 | nil=>cases hb
 | on b' n e _ _ h1=>cases hb; exact ⟨e,h1⟩
theorem Co.lit (h:Co X H p σ kc ai ci ao co csI exo) {n:Nat} {e:Ent} (hn:H n=none):Co (X.new n e) (H.new n e) p σ kc ai ci ao co csI exo where
 pt:=by
  refine h.pt.agree (fun k e' q=>?_) ?_ fun e' q=>Le.new hn _ _ q
  .simp only [KH.new] at q ⊢
   by_cases hk:k=n
   .rw [if_pos hk] at q ⊢; exact q
   .rw [if_neg hk] at q ⊢; exact h.pt.le k e' q
  .obtain ⟨e1,h1,_⟩:=h.pt.ex
   simp only [KH.new]
   rw [if_neg (fun x=>by rw [x,hn] at h1; cases h1)]
   exact h.pt.xp
 xi b q:=by
  obtain ⟨e1,h1⟩:=h.items.at q
  refine ⟨?_,(h.xi b q).2⟩
  simp only [KH.new]
  rw [if_neg (fun x=>by rw [x,hn] at h1; cases h1)]
  exact (h.xi b q).1
 xo b q:=by
  obtain ⟨e1,h1⟩:=h.outer.at q
  refine ⟨?_,(h.xo b q).2⟩
  simp only [KH.new]
  rw [if_neg (fun x=>by rw [x,hn] at h1; cases h1)]
  exact (h.xo b q).1
 items:=h.items.agree fun k e' _ q=>Le.new hn _ _ q
 itc:=h.itc.mono (Le.new (h.pt.le.none hn))
 outer:=h.outer.agree fun k e' _ q=>Le.new hn _ _ q
 small:=h.small
theorem Co.sub {H':KH} (h:Co X H p σ kc ai ci ao co csI exo) (hl:Le H H'):Co X H' p σ kc ai ci ao co csI exo where
 pt:=h.pt.agree (h.pt.le.trans hl) h.pt.xp fun e q=>hl _ _ q
 xi:=h.xi
 xo:=h.xo
 items:=h.items.agree fun k e _ q=>hl _ _ q
 itc:=h.itc
 outer:=h.outer.agree fun k e _ q=>hl _ _ q
 small:=h.small
abbrev IT2:TI:=⟨2,32,true,3,0,0,[(0,1),(1,1)],[.int .i64 0,.slice none 0 0]⟩
abbrev GT2:TI:=⟨2,16,true,3,0,0,[(0,1),(1,1)],[.bool false,.int .i64 0]⟩
theorem Co.item (h:Co X H p σ kc ai ci ao co csI exo) (hs:σ.items.length<=1000) {op:Int} {l:List Rg} {a:OA} {c nm:Nat} (hk:kold X 2 a l.length=some (rgC l)) (hnm:H nm=none) :
 ∃ a' H' ,kappend H nm IT2 ai σ.items.length ci 1 [.int .i64 op,.slice a l.length c]=some (.slice a' (σ.items.length+1) unkU,H')/\(∃ e,H' p=some e/\H p=some e)/\ld H' ⟨p,0,none⟩ [.slice ai σ.items.length ci]/\KH.may H' p/\
  Co X (H'.put ⟨p,0,none⟩ [.slice a' (σ.items.length+1) unkU]) p { σ with items:=σ.items++[(op,l)] } kc a' unkU ao co (csI++[.int .i64 op,.slice a l.length c]) exo:=by
 obtain ⟨a',H',ex',g1,g2,g3,g4,g5⟩:=Gr.append (ti:=IT2) (new:=[.int .i64 op,.slice a l.length c]) h.items hnm rfl (by omega) (by decide) (by decide)
 have g3:=g3 rfl
 subst g3
 obtain ⟨ep,hp1,hp2,hp3⟩:=h.pt.ex
 have hpi:blk ai≠some p:=fun x=>(h.xi p x).2 rfl
 have hp':=g4 p ep hp1 hpi
 have hX:Le X H':=fun k e q=>g4 k e (h.pt.le k e q) fun x=>by rw [(h.xi k x).1] at q; cases q
 have pt':Pt X H' p ([.slice ai σ.items.length ci,.slice ao σ.outer.length co,.bool σ.parted,.int .i64 σ.atoms]++kc):=h.pt.agree hX h.pt.xp fun e q=>g4 p e q hpi
 have hnX:X nm=none:=h.pt.le.none hnm
 have hout:∀ b,blk ao=some b->b≠nm:=fun b q x=>by
  obtain ⟨e1,h1⟩:=h.outer.at q
  rw [x,hnm] at h1; cases h1
 refine ⟨a',H',g1,⟨ep,hp',hp1⟩,?_,pt'.may,?_⟩
 .have:=ldSub pt'.ld 0 1 (by simp)
  simpa using this
 .have hx:∀ b,blk a'=some b->X b=none/\b≠p:=fun b q=>by
   rcases g5 b q with q | q
   .exact h.xi b q
   .subst q; exact ⟨hnX,fun x=>by rw [<- x,hnm] at hp1; cases hp1⟩
  refine ⟨?_,hx,fun b q=>⟨(h.xo b q).1,(h.xo b q).2.1,fun x=>?_⟩,?_,?_,?_,h.small⟩
  .have:=Pt.put (o:=0) (a:=[]) (b:=[.slice ai σ.items.length ci]) (c:=[.slice ao σ.outer.length co,.bool σ.parted,.int .i64 σ.atoms]++kc) (vs:=[.slice a' (σ.items.length+1) unkU]) (by simpa using pt') rfl rfl
   simpa using this
  .rcases g5 b x with x | x
   .exact (h.xo b q).2.2 x
   .exact hout b q x
  .have:=g2.agree (H':=H'.put ⟨p,0,none⟩ [.slice a' (σ.items.length+1) unkU]) fun k e hk q=>put_ne (hx k hk).2 q
   simpa using this
  .exact h.itc.app hk
  .exact h.outer.agree fun k e hk q=>put_ne (h.xo k hk).2.1 (g4 k e q fun x=>(h.xo k hk).2.2 x)
end
theorem join_len (σ:RdS):(joinR σ).items.length<=σ.items.length+1:=by
 unfold joinR putR
 split<;>simp
theorem join_atoms {σ:RdS} (h:0<=σ.atoms/\σ.atoms<=2):0<=(joinR σ).atoms/\(joinR σ).atoms<=1:=by
 unfold joinR putR
 split
 .simp
 .omega
theorem join_outer (σ:RdS):(joinR σ).outer=σ.outer:=by unfold joinR putR; split<;>rfl
theorem join_zero {σ:RdS} (h:σ.atoms≠0):(joinR σ).atoms≠0:=by
 unfold joinR putR
 split
 .simp
 .exact h
theorem stOk {H:KH} {a:Addr} {ws vs:List Value} (h:ld H a ws) (hl:ws.length=vs.length):∃ l:List Value,l.length=vs.length/\ld H a l:=⟨ws,hl,h⟩
theorem lit_kold {H:KH} {b sz n:Nat} {cs:List Value} (hb:H b=some (mkEnt cs 0)) (hl:cs.length=n*sz):kold H sz (some ⟨b,0,none⟩) n=some cs:=by
 refine kold_some.2 ⟨_,hb,?_⟩
 rw [<- hl]
 exact rd_some rfl fun j v hv=>by rw [Nat.zero_add]; simp only [mkEnt,tget_wr_nil]; exact hv
end Go.Ew
namespace Go.Proofs.Ytlgpleiobieniaa
open Go.Ev Go.Ew
namespace Va
section
variable (ok : EnvOk (env Try.prog))
include ok
theorem c97 {X H:KH} {p:Nat} {σ:RdS} {kc:List Value} {op:Int} {Q:PQ} (h:CoX X H p σ kc) (hs:σ.items.length<=1000) (hq:∀ H',CoX X H' p (putR σ op) kc->Q (.tuple #[]) H'):Does (env Try.prog) 97 [.pointer (some ⟨p,0,none⟩),.int .i64 op] H Q:=by
 obtain ⟨ai,ci,ao,co,csI,exo,h⟩:=h
 refine fn97 ok ⟨rfl,ai,_,ci,h.c0,fun n4 hn4 n5 hn5=>?_⟩
 have h1:=h.sub (Le.new (e:=mkEnt [.int .i64 op,.slice none 0 0] 0) hn4)
 obtain ⟨a',H',g1,_,g3,g4,g5⟩:=h1.item hs (op:=op) (l:=[]) (a:=none) (c:=0) rfl hn5
 refine ⟨1,_,knew_of (lit_kold (if_pos rfl) rfl),a',_,_,H',g1,rfl,stOk g3 rfl,g4,hq _ ⟨_,_,_,_,_,_,g5⟩⟩
theorem c92 {X H:KH} {p:Nat} {σ:RdS} {kc:List Value} {Q:PQ} (h:CoX X H p σ kc) (hs:σ.items.length<=1000) (hq:∀ H',CoX X H' p (joinR σ) kc->Q (.tuple #[]) H'):Does (env Try.prog) 92 [.pointer (some ⟨p,0,none⟩)] H Q:=by
 have h0:=h
 obtain ⟨ai,ci,ao,co,csI,exo,h⟩:=h
 refine fn92 ok ⟨rfl,rfl,_,h.c3,fun h2=>?_,fun h2=>?_⟩
 .have h2:σ.atoms=2:=by simpa using h2
  refine c97 ok h0 hs fun H' hc=>?_
  obtain ⟨ai,ci,ao,co,csI,exo,hc⟩:=hc
  refine ⟨rfl,rfl,rfl,stOk hc.c3 rfl,hc.pt.may,hq _ ?_⟩
  have:=hc.setAtoms (n:=1) (by omega)
  rw [joinR,if_pos h2]
  exact ⟨_,_,_,_,_,_,this⟩
 .have h2:¬ σ.atoms=2:=by simpa using h2
  have:=hq H (by rw [joinR,if_neg h2]; exact h0)
  exact this
theorem c82 {X H:KH} {p:Nat} {σ:RdS} {kc:List Value} {l:List Rg} {a:OA} {c:Nat} {Q:PQ} (h:CoX X H p σ kc) (hs:σ.items.length<=900) (hk:kold X 2 a l.length=some (rgC l)) (hq:∀ H',CoX X H' p (addClassR σ l) kc->Q (.tuple #[]) H'):Does (env Try.prog) 82 [.pointer (some ⟨p,0,none⟩),.slice a l.length c] H Q:=by
 have ha:0<=σ.atoms/\σ.atoms<=2:=by obtain ⟨_,_,_,_,_,_,h⟩:=h; exact h.small.1
 refine fn82 ok (c92 ok h (by omega) fun H2 hc=>?_)
 obtain ⟨ai,ci,ao,co,csI,exo,hc⟩:=hc
 have hl:=join_len σ
 have hat:=join_atoms ha
 refine ⟨rfl,rfl,ai,_,ci,hc.c0,fun n6 hn6 n7 hn7=>?_⟩
 have h1:=hc.sub (Le.new (e:=mkEnt [.int .i64 1,.slice a l.length c] 0) hn6)
 obtain ⟨a',H',g1,_,g3,g4,g5⟩:=h1.item (by omega) (op:=1) (l:=l) (a:=a) (c:=c) hk hn7
 have hw:IntKind.wrap .i64 ((joinR σ).atoms+1)=(joinR σ).atoms+1:=wrap64 (by omega) (by omega)
 refine ⟨1,_,knew_of (lit_kold (if_pos rfl) rfl),a',_,_,H',g1,rfl,stOk g3 rfl,g4,rfl,rfl,_,g5.c3,rfl,rfl,stOk g5.c3 rfl,g5.pt.may,hq _ ?_⟩
 have g6:=g5.setAtoms (n:=(joinR σ).atoms+1) (by omega)
 simp only [] at g6 ⊢
 rw [hw]
 exact ⟨_,_,_,_,_,_,g6⟩
theorem c96 {X H:KH} {p:Nat} {σ:RdS} {kc:List Value} {op:Int} {Q:PQ} (h:CoX X H p σ kc) (hs:σ.items.length<=1000) (hn:repeatR σ op=none->∀ H',CoX X H' p σ kc->Q (.bool false) H') (hq:∀ τ,repeatR σ op=some τ->∀ H',CoX X H' p τ kc->Q (.bool true) H'):Does (env Try.prog) 96 [.pointer (some ⟨p,0,none⟩),.int .i64 op] H Q:=by
 have h0:=h
 obtain ⟨ai,ci,ao,co,csI,exo,h⟩:=h
 refine fn96 ok ⟨rfl,rfl,_,h.c3,fun h2=>?_,fun h2=>?_⟩
 .have h2:σ.atoms=0:=by simpa using h2
  exact hn (if_pos h2) H h0
 .have h2:¬ σ.atoms=0:=by simpa using h2
  exact c97 ok h0 hs fun H' hc=>⟨rfl,hq _ (if_neg h2) _ hc⟩
theorem c84 {X H:KH} {p:Nat} {σ:RdS} {kc:List Value} {Q:PQ} (h:CoX X H p σ kc) (hs:σ.items.length<=900) (hn:endR σ=none->Q (.bool false) H) (hq:∀ τ,endR σ=some τ->∀ H',CoX X H' p τ kc->Q (.bool true) H'):Does (env Try.prog) 84 [.pointer (some ⟨p,0,none⟩)] H Q:=by
 have h0:=h
 obtain ⟨ai,ci,ao,co,csI,exo,h⟩:=h
 have hl:=join_len σ
 refine fn84 ok ⟨rfl,rfl,_,h.c3,fun h2=>?_,fun h2=>?_⟩
 .have h2:σ.atoms=0:=by simpa using h2
  exact hn (if_pos h2)
 .have h2:¬ σ.atoms=0:=by simpa using h2
  refine c92 ok h0 (by omega) fun H2 hc=>?_
  have hc0:=hc
  obtain ⟨ai,ci,ao,co,csI,exo,hc⟩:=hc
  refine ⟨rfl,rfl,rfl,_,hc.c2,fun hp=>?_,fun hp=>?_⟩
  .refine c97 ok hc0 (by omega) fun H3 hd=>?_
   obtain ⟨ai,ci,ao,co,csI,exo,hd⟩:=hd
   refine ⟨rfl,rfl,stOk hd.c82 rfl,hd.pt.may,hq _ (if_neg h2) _ ?_⟩
   rw [if_pos hp]
   exact ⟨_,_,_,_,_,_,hd.setNow (by omega)⟩
  .refine ⟨rfl,stOk hc.c82 rfl,hc.pt.may,hq _ (if_neg h2) _ ?_⟩
   rw [if_neg (by rw [hp]; decide)]
   exact ⟨_,_,_,_,_,_,hc.setNow (by omega)⟩
theorem c101 {X H:KH} {p:Nat} {σ:RdS} {kc:List Value} {Q:PQ} (h:CoX X H p σ kc) (hq:Q (.bool (decide (σ.outer.length<12))) H):Does (env Try.prog) 101 [.pointer (some ⟨p,0,none⟩)] H Q:=by
 obtain ⟨ai,ci,ao,co,csI,exo,h⟩:=h
 refine fn101 ok ⟨rfl,ao,_,co,h.c1,?_⟩
 have:decide ((σ.outer.length:Int)<12)=decide (σ.outer.length<12):=by rw [Bool.eq_iff_iff]; simp; omega
 rw [this]
 exact hq
end
end Va
end Go.Proofs.Ytlgpleiobieniaa
namespace Go.Ew
open Go.Ev Go.Deep
section
variable {X H : KH} {p : Nat} {σ : RdS} {kc : List Value} {ai : OA} {ci : Nat} {ao : OA} {co : Nat} {csI exo : List Value}
theorem Co.push (h:Co X H p σ kc ai ci ao co csI exo) (hs:σ.outer.length<12) {b:Bool} {x:Int} (hx:0<=x/\x<=1) {nm:Nat} (hnm:H nm=none) :
 ∃ a' H' ex',kappend H nm GT2 ao σ.outer.length co 1 [.bool b,.int .i64 x]=some (.slice a' (σ.outer.length+1) unkU,H')/\ld H' ⟨p,1,none⟩ [.slice ao σ.outer.length co]/\KH.may H' p/\
  Co X (H'.put ⟨p,1,none⟩ [.slice a' (σ.outer.length+1) unkU]) p { σ with outer:=σ.outer++[(b,x)] } kc ai ci a' unkU csI ex':=by
 obtain ⟨a',H',ex',g1,g2,g3,g4,g5⟩:=Gr.append (ti:=GT2) (new:=[.bool b,.int .i64 x]) h.outer hnm rfl (by omega) (by decide) (by decide)
 obtain ⟨ep,hp1,hp2,hp3⟩:=h.pt.ex
 have hpo:blk ao≠some p:=fun x=>(h.xo p x).2.1 rfl
 have hX:Le X H':=fun k e q=>g4 k e (h.pt.le k e q) fun x=>by rw [(h.xo k x).1] at q; cases q
 have pt':Pt X H' p ([.slice ai σ.items.length ci,.slice ao σ.outer.length co,.bool σ.parted,.int .i64 σ.atoms]++kc):=h.pt.agree hX h.pt.xp fun e q=>g4 p e q hpo
 have hnX:X nm=none:=h.pt.le.none hnm
 have hin:∀ b,blk ai=some b->b≠nm:=fun b q x=>by
  obtain ⟨e1,h1⟩:=h.items.at q
  rw [x,hnm] at h1; cases h1
 have hxo:∀ b,blk a'=some b->X b=none/\b≠p/\blk ai≠some b:=fun b q=>by
  rcases g5 b q with q | q
  .exact h.xo b q
  .subst q; exact ⟨hnX,fun x=>(by rw [<- x,hnm] at hp1; cases hp1),fun x=>hin b x rfl⟩
 refine ⟨a',H',ex',g1,?_,pt'.may,?_,h.xi,hxo,?_,h.itc,?_,⟨h.small.1,by simp; omega,fun g hg=>?_⟩⟩
 .have:=ldSub pt'.ld 1 1 (by simp)
  simpa using this
 .have:=Pt.put (o:=1) (a:=[.slice ai σ.items.length ci]) (b:=[.slice ao σ.outer.length co]) (c:=[.bool σ.parted,.int .i64 σ.atoms]++kc) (vs:=[.slice a' (σ.outer.length+1) unkU]) (by simpa using pt') rfl rfl
  simpa using this
 .exact h.items.agree fun k e hk q=>put_ne (h.xi k hk).2 (g4 k e q fun x=>(h.xo k x).2.2 hk)
 .have:=g2.agree (H':=H'.put ⟨p,1,none⟩ [.slice a' (σ.outer.length+1) unkU]) fun k e hk q=>put_ne (hxo k hk).2.1 q
  have e1:grC (σ.outer++[(b,x)])=grC σ.outer++[.bool b,.int .i64 x]:=by rw [grC_app]; rfl
  simpa [e1] using this
 .rcases List.mem_append.1 hg with hg | hg
  .exact h.small.2.2 g hg
  .have:g=(b,x):=by simpa using hg
   subst this; exact hx
theorem Co.pop (h:Co X H p σ kc ai ci ao co csI exo) {l:List (Bool × Int)} {g:Bool × Int} (hl:σ.outer=l++[g]) :
 ∃ b e,ao=some ⟨b,0,none⟩/\co=unkU/\H b=some e/\b≠p/\ld H ⟨b,0+l.length*2,none⟩ [.bool g.1,.int .i64 g.2]/\
  (∀ H':KH,H' b=some e->kslice H' 2 (some ⟨b,0,none⟩) σ.outer.length unkU none (some (.int .i64 ((l.length:Nat):Int)))=some (.slice (some ⟨b,0,none⟩) l.length unkU))/\
  Co X (H.put ⟨p,1,none⟩ [.slice (some ⟨b,0,none⟩) l.length unkU]) p { σ with outer:=l } kc ai ci (some ⟨b,0,none⟩) unkU csI ([.bool g.1,.int .i64 g.2]++exo):=by
 have hn:σ.outer.length=l.length+1:=by rw [hl]; simp
 have hg:grC σ.outer=grC l++[.bool g.1,.int .i64 g.2]:=by rw [hl,grC_app]; rfl
 have hout:=h.outer
 have hxo:=h.xo
 have hpt:=h.pt
 generalize hN:σ.outer.length=N at *
 generalize hC:grC σ.outer=C at *
 cases hout with
 | nil=>omega
 | on b _ e _ _ h1 h2 h3 h4 h5 h6 =>
   have hbp:b≠p:=(hxo b rfl).2.1
   have hll:=grC_len l
   have hCl:C.length=l.length*2+2:=by rw [hg]; simp [hll]
   refine ⟨b,e,rfl,rfl,h1,hbp,?_,fun H' hb=>?_,?_,h.xi,hxo,?_,h.itc,?_,⟨h.small.1,(show l.length<=12 by have:=h.small.2.1; omega),fun g' hg'=>h.small.2.2 g' (by rw [hl]; simp [hg'])⟩⟩
   .have:=ldSub (H:=H) (b:=b) (o:=0) (cs:=C++exo) ⟨rfl,e,h1,h4⟩ (l.length*2) 2 (by simp; omega)
    rw [hg,List.append_assoc,<- hll,List.drop_left] at this
    rw [<- hll]
    simpa using this
   .have hcap:kcap H' ⟨b,0,none⟩ unkU 2=some (e.len/2):=by
     unfold kcap
     have hb0:Nat.blt unkU unkU=false:=rfl
     have hq:(Nat.beq e.unk 2&&Nat.beq 0 ((unkU-unkU)*2)&&Nat.ble 1 2&&Nat.ble 0 e.len)=true:=by
      rw [h2,Nat.sub_self]; simp
     simp only [hb0,cond_false,hb,hq,cond_true,Nat.sub_zero]
    have hlen:l.length+1<=e.len/2:=by
     rw [h3,List.length_append,hCl]; omega
    unfold kslice
    have hb0:Nat.blt unkU unkU=false:=rfl
    have n1:natOf 0 none=some 0:=rfl
    have n2:natOf N (some (.int .i64 ((l.length:Nat):Int)))=some l.length:=by
     simp [natOf]
    simp only [Option.isNone_none,cond_true,n1,n2,hcap]
    have hq:(Nat.ble 0 l.length&&Nat.ble l.length (e.len/2)&&Nat.ble N (e.len/2)&&true)=true:=by
     simp only [Bool.and_eq_true]
     exact ⟨⟨⟨rfl,Nat.ble_eq_true_of_le (by omega)⟩,Nat.ble_eq_true_of_le (by omega)⟩,trivial⟩
    rw [hq]
    have hq2:Nat.blt 0 (e.len/2)=true:=Nat.ble_eq_true_of_le (by omega)
    simp only [cond_true,hb0,cond_false,hq2]
    simp
   .have:=Pt.put (o:=1) (a:=[.slice ai σ.items.length ci]) (b:=[.slice (some ⟨b,0,none⟩) N unkU]) (c:=[.bool σ.parted,.int .i64 σ.atoms]++kc) (vs:=[.slice (some ⟨b,0,none⟩) l.length unkU]) (by simpa using hpt) rfl rfl
    simpa using this
   .exact h.items.agree fun k e hk q=>put_ne (h.xi k hk).2 q
   .refine .on b _ e _ _ (put_ne hbp h1) h2 ?_ ?_ h5 hll
    .rw [h3,hg,List.append_assoc]
    .rw [<- List.append_assoc,<- hg]; exact h4
end
theorem end_outer {σ τ:RdS} (h:endR σ=some τ):τ.outer=σ.outer:=by
 unfold endR at h
 split at h
 .cases h
 .cases h
  show (if (joinR σ).parted=true then putR (joinR σ) 3 else joinR σ).outer=_
  split
  .exact join_outer σ
  .exact join_outer σ
theorem end_len {σ τ:RdS} (h:endR σ=some τ):τ.items.length<=σ.items.length+2:=by
 have:=join_len σ
 unfold endR at h
 split at h
 .cases h
 .cases h
  show (if (joinR σ).parted=true then putR (joinR σ) 3 else joinR σ).items.length<=_
  split
  .simp [putR]; omega
  .omega
end Go.Ew
namespace Go.Proofs.Ytlgpleiobieniaa
open Go.Ev Go.Ew
namespace Va
section
variable (ok : EnvOk (env Try.prog))
include ok
theorem c93 {X H:KH} {p:Nat} {σ:RdS} {kc:List Value} {Q:PQ} (h:CoX X H p σ kc) (hs:σ.items.length<=900) (hn:openR σ=none->Q (.bool false) H) (hq:∀ τ,openR σ=some τ->∀ H',CoX X H' p τ kc->Q (.bool true) H'):Does (env Try.prog) 93 [.pointer (some ⟨p,0,none⟩)] H Q:=by
 have ha:0<=σ.atoms/\σ.atoms<=2:=by obtain ⟨_,_,_,_,_,_,h⟩:=h; exact h.small.1
 refine fn93 ok (c101 ok h ⟨_,rfl,fun h1=>?_,fun h1=>?_⟩)
 .exact hn (if_neg (by simpa using h1))
 .have h1:σ.outer.length<12:=by simpa using h1
  refine c92 ok h (by omega) fun H2 hc=>?_
  obtain ⟨ai,ci,ao,co,csI,exo,hc⟩:=hc
  have hat:=join_atoms ha
  have ho:=join_outer σ
  refine ⟨rfl,trivial,rfl,ao,_,co,hc.c1,rfl,_,_,hc.c82,fun n8 hn8 n9 hn9=>?_⟩
  have h2:=hc.sub (Le.new (e:=mkEnt [.bool (joinR σ).parted,.int .i64 (joinR σ).atoms] 0) hn8)
  obtain ⟨a',H',ex',g1,g2,g3,g4⟩:=h2.push (by rw [ho]; exact h1) (b:=(joinR σ).parted) (x:=(joinR σ).atoms) hat hn9
  refine ⟨1,_,knew_of (lit_kold (if_pos rfl) rfl),a',_,_,H',g1,⟨rfl,trivial⟩,rfl,stOk g2 rfl,g3,trivial,rfl,stOk g4.c82 rfl,g4.pt.may,hq _ (if_pos h1) _ ?_⟩
  exact ⟨_,_,_,_,_,_,g4.setNow (by omega)⟩
theorem c94 {X H:KH} {p:Nat} {σ:RdS} {kc:List Value} {Q:PQ} (h:CoX X H p σ kc) (hs:σ.items.length<=900) (hn:closeR σ=none->Q (.bool false) H) (hq:∀ τ,closeR σ=some τ->∀ H',CoX X H' p τ kc->Q (.bool true) H'):Does (env Try.prog) 94 [.pointer (some ⟨p,0,none⟩)] H Q:=by
 have h0:=h
 obtain ⟨ai,ci,ao,co,csI,exo,h⟩:=h
 have hsm:=h.small.2.1
 have hw:IntKind.wrap .i64 (((σ.outer.length:Nat):Int)-1)=((σ.outer.length:Nat):Int)-1:=wrap64 (by omega) (by omega)
 refine fn94 ok ⟨rfl,ao,_,co,h.c1,fun h1=>?_,fun h1=>?_⟩
 .rw [hw] at h1
  have h1:=of_decide_eq_true h1
  have:σ.outer=[]:=List.eq_nil_of_length_eq_zero (by omega)
  exact hn (by unfold closeR; rw [this]; rfl)
 .rw [hw] at h1
  have h1:=of_decide_eq_false h1
  obtain ⟨l,g,hl⟩:∃ l g,σ.outer=l++[g]:=by
   refine ⟨σ.outer.dropLast,σ.outer.getLast (by intro e; rw [e] at h1; simp at h1),?_⟩
   exact (List.dropLast_concat_getLast _).symm
  have hlast:σ.outer.getLast? = some g:=by rw [hl]; simp
  have hdrop:σ.outer.dropLast=l:=by rw [hl]; simp
  have hgb:=h.small.2.2 g (by rw [hl]; simp)
  refine c84 ok h0 hs (fun he=>⟨_,rfl,fun _=>hn ?_,fun h=>(by cases h)⟩) fun τ he H5 hc=>⟨_,rfl,fun h=>(by cases h),fun _=>?_⟩
  .unfold closeR; rw [hlast]; simp only [he]
  .have hot:=end_outer he
   have hn1:σ.outer.length=l.length+1:=by rw [hl]; simp
   obtain ⟨ai,ci,ao,co,csI,exo,hc⟩:=hc
   obtain ⟨b,e,rfl,rfl,p1,p2,p3,p4,p5⟩:=hc.pop (l:=l) (g:=g) (by rw [hot,hl])
   have hln:((σ.outer.length:Nat):Int)-1=((l.length:Nat):Int):=by omega
   rw [hw,hln]
   have hcl:=hc.c1
   rw [hot] at hcl p4
   have nw:=hc.setNow (b:=g.1) (n:=g.2) (by omega)
   obtain ⟨b',e',q0,_,q1,q2,q3,q4,q5⟩:=nw.pop (l:=l) (g:=g) (by show τ.outer=_; rw [hot,hl])
   cases q0
   have hk1:=p4 H5 p1
   have hk2:=p4 (H5.put ⟨p,2,none⟩ [.bool g.1,.int .i64 g.2]) (put_ne p2 p1)
   refine ⟨trivial,rfl,_,_,_,hcl,⟨by omega,by omega⟩,b,0,rfl,g.1,g.2,by simpa using p3,rfl,_,_,_,hcl,_,_,_,hk1,rfl,stOk hc.c82 rfl,hc.pt.may,⟨rfl,rfl,⟨_,_,_,hk2,rfl⟩,trivial⟩,rfl,?_⟩
   have hcl2:=nw.c1
   refine ⟨stOk hcl2 rfl,nw.pt.may,trivial,rfl,rfl,_,q5.c3,rfl,rfl,stOk q5.c3 rfl,q5.pt.may,hq { τ with outer:=l,parted:=g.1,atoms:=g.2+1 } ?_ _ ?_⟩
   .unfold closeR; rw [hlast]; simp only [he,hdrop]
   .have hfin:=q5.setAtoms (n:=g.2+1) (by omega)
    have hw2:IntKind.wrap .i64 (g.2+1)=g.2+1:=wrap64 (by omega) (by omega)
    show CoX X (KH.put _ _ [.int .i64 (IntKind.wrap .i64 (g.2+1))]) p _ kc
    rw [hw2]
    exact ⟨_,_,_,_,_,_,hfin⟩
end
end Va
end Go.Proofs.Ytlgpleiobieniaa
namespace Go.Ew
open Go.Ev Go.Deep
section
variable {X H : KH} {p : Nat} {σ : RdS} {kc : List Value} {ai : OA} {ci : Nat} {ao : OA} {co : Nat} {csI exo : List Value}
theorem Co.agree {H':KH} (h:Co X H p σ kc ai ci ao co csI exo) (hk:∀ k e,H k=some e->(X k=some e\/k=p\/blk ai=some k\/blk ao=some k)->H' k=some e):Co X H' p σ kc ai ci ao co csI exo where
 pt:=h.pt.agree (fun k e q=>hk k e (h.pt.le k e q) (.inl q)) h.pt.xp fun e q=>hk p e q (.inr (.inl rfl))
 xi:=h.xi
 xo:=h.xo
 items:=h.items.agree fun k e q1 q=>hk k e q (.inr (.inr (.inl q1)))
 itc:=h.itc
 outer:=h.outer.agree fun k e q1 q=>hk k e q (.inr (.inr (.inr q1)))
 small:=h.small
theorem Co.setK {a b c vs:List Value} {o:Nat} (h:Co X H p σ (a++b++c) ai ci ao co csI exo) (ho:o=4+a.length) (hb:b.length=vs.length):Co X (H.put ⟨p,o,none⟩ vs) p σ (a++vs++c) ai ci ao co csI exo where
 pt:=by
  have:=Pt.put (o:=o) (a:=[.slice ai σ.items.length ci,.slice ao σ.outer.length co,.bool σ.parted,.int .i64 σ.atoms]++a) (b:=b) (c:=c) (vs:=vs) (by simpa [List.append_assoc] using h.pt) (by rw [ho]; simp; omega) hb
  simpa [List.append_assoc] using this
 xi:=h.xi
 xo:=h.xo
 items:=h.items.agree fun k e hk q=>put_ne (h.xi k hk).2 q
 itc:=h.itc
 outer:=h.outer.agree fun k e hk q=>put_ne (h.xo k hk).2.1 q
 small:=h.small
theorem Co.k {a b c:List Value} (h:Co X H p σ (a++b++c) ai ci ao co csI exo):ld H ⟨p,4+a.length,none⟩ b:=by
 have:=ldSub h.pt.ld (4+a.length) b.length (by simp; omega)
 have e:∀ four:List Value,four.length=4->((four++(a++b++c)).drop (4+a.length)).take b.length=b:=fun four h4=>by
  have:four++(a++b++c)=(four++a)++(b++c):=by simp
  rw [this,List.drop_left' (by simp [h4]),List.take_left]
 rw [e _ rfl,Nat.zero_add] at this
 exact this
end
structure Cl (X H:KH) (p:Nat) (σ:RdS) (l:List Rg) (pl:Int) (ai:OA) (ci:Nat) (ao:OA) (co:Nat) (csI exo:List Value) (ar:OA) (cr:Nat):Prop where
 co:Co X H p σ [.bool true,.slice ar l.length cr,.int .i64 pl] ai ci ao co csI exo
 row:Gr H 2 ar l.length cr (rgC l) []
 xr:∀ b,blk ar=some b->X b=none/\b≠p/\blk ai≠some b/\blk ao≠some b
def ClX (X H:KH) (p:Nat) (σ:RdS) (l:List Rg) (pl:Int):Prop:=∃ ai ci ao co csI exo ar cr,Cl X H p σ l pl ai ci ao co csI exo ar cr
abbrev shut:List Value:=[.bool false,.slice none 0 0,.int .i64 0]
def Fu (X H:KH) (p:Nat) (σ:RdS):Prop:=match σ.cls with
 | none=>CoX X H p σ shut
 | some (l,pl)=>ClX X H p σ l pl
abbrev RT2:TI:=⟨2,2,true,3,0,0,[(0,1),(1,1)],[.int .u8 0,.int .u8 0]⟩
section
variable {X H : KH} {p : Nat} {σ : RdS} {l : List Rg} {pl : Int} {ai : OA} {ci : Nat} {ao : OA} {co : Nat} {csI exo : List Value} {ar : OA} {cr : Nat}
theorem Cl.k0 (h:Cl X H p σ l pl ai ci ao co csI exo ar cr):ld H ⟨p,4,none⟩ [.bool true]:=Co.k (a:=[]) (b:=[.bool true]) (c:=[.slice ar l.length cr,.int .i64 pl]) h.co
theorem Cl.k1 (h:Cl X H p σ l pl ai ci ao co csI exo ar cr):ld H ⟨p,5,none⟩ [.slice ar l.length cr]:=Co.k (a:=[.bool true]) (b:=[.slice ar l.length cr]) (c:=[.int .i64 pl]) h.co
theorem Cl.k2 (h:Cl X H p σ l pl ai ci ao co csI exo ar cr):ld H ⟨p,6,none⟩ [.int .i64 pl]:=Co.k (a:=[.bool true,.slice ar l.length cr]) (b:=[.int .i64 pl]) (c:=[]) h.co
theorem Cl.place (h:Cl X H p σ l pl ai ci ao co csI exo ar cr) (n:Int):Cl X (H.put ⟨p,6,none⟩ [.int .i64 n]) p σ l n ai ci ao co csI exo ar cr where
 co:=Co.setK (a:=[.bool true,.slice ar l.length cr]) (b:=[.int .i64 pl]) (c:=[]) (vs:=[.int .i64 n]) h.co rfl rfl
 row:=h.row.agree fun k e hk q=>put_ne (h.xr k hk).2.1 q
 xr:=h.xr
theorem Cl.known (h:Cl X H p σ l pl ai ci ao co csI exo ar cr):∃ X1:KH,Le X X1/\Co X1 H p σ [.bool true,.slice ar l.length cr,.int .i64 pl] ai ci ao co csI exo/\kold X1 2 ar l.length=some (rgC l):=by
 refine ⟨fun k=>if blk ar=some k then H k else X k,fun k e q=>?_,?_,?_⟩
 .show (if _ then _ else _)=_
  rw [if_neg (fun x=>by rw [(h.xr k x).1] at q; cases q)]
  exact q
 .refine ⟨h.co.pt.agree (fun k e q=>?_) ?_ fun e q=>q,fun b q=>⟨?_,(h.co.xi b q).2⟩,fun b q=>⟨?_,(h.co.xo b q).2⟩,h.co.items,h.co.itc.mono (fun k e q=>?_),h.co.outer,h.co.small⟩
  .have q:(if blk ar=some k then H k else X k)=some e:=q
   split at q
   .exact q
   .exact h.co.pt.le k e q
  .show (if _ then _ else _)=_
   rw [if_neg (fun x=>(h.xr p x).2.1 rfl)]
   exact h.co.pt.xp
  .show (if _ then _ else _)=_
   rw [if_neg (fun x=>(h.xr b x).2.2.1 q)]
   exact (h.co.xi b q).1
  .show (if _ then _ else _)=_
   rw [if_neg (fun x=>(h.xr b x).2.2.2 q)]
   exact (h.co.xo b q).1
  .show (if _ then _ else _)=_
   rw [if_neg (fun x=>by rw [(h.xr k x).1] at q; cases q)]
   exact q
 .refine Gr.row (cs:=rgC l) (ex:=[]) (c:=cr) (h.row.agree fun k e hk q=>?_)
  show (if _ then _ else _)=_
  rw [if_pos hk]
  exact q
theorem Cl.more (h:Cl X H p σ l pl ai ci ao co csI exo ar cr) (hs:l.length<=1000) {c:Int} {nm:Nat} (hnm:H nm=none) :
 ∃ a' H',kappend H nm RT2 ar l.length cr 1 [.int .u8 c,.int .u8 c]=some (.slice a' (l.length+1) unkU,H')/\ld H' ⟨p,5,none⟩ [.slice ar l.length cr]/\KH.may H' p/\
  Cl X (H'.put ⟨p,5,none⟩ [.slice a' (l.length+1) unkU]) p σ (l++[(c,c)]) pl ai ci ao co csI exo a' unkU:=by
 obtain ⟨a',H',ex',g1,g2,g3,g4,g5⟩:=Gr.append (ti:=RT2) (new:=[.int .u8 c,.int .u8 c]) h.row hnm rfl (by omega) (by decide) (by decide)
 have g3:=g3 rfl
 subst g3
 have hc:Co X H' p σ [.bool true,.slice ar l.length cr,.int .i64 pl] ai ci ao co csI exo:=h.co.agree fun k e q hk=>g4 k e q fun x=>by
  obtain ⟨x1,x2,x3,x4⟩:=h.xr k x
  rcases hk with hk | hk | hk | hk
  .rw [x1] at hk; cases hk
  .exact x2 hk
  .exact x3 hk
  .exact x4 hk
 have hxr:∀ b,blk a'=some b->X b=none/\b≠p/\blk ai≠some b/\blk ao≠some b:=fun b q=>by
  rcases g5 b q with q | q
  .exact h.xr b q
  .subst q
   refine ⟨h.co.pt.le.none hnm,fun x=>?_,fun x=>?_,fun x=>?_⟩
   .obtain ⟨e,h1,_⟩:=h.co.pt.ex
    rw [<- x,hnm] at h1; cases h1
   .obtain ⟨e1,h1⟩:=h.co.items.at x
    rw [hnm] at h1; cases h1
   .obtain ⟨e1,h1⟩:=h.co.outer.at x
    rw [hnm] at h1; cases h1
 refine ⟨a',H',g1,Co.k (a:=[.bool true]) (b:=[.slice ar l.length cr]) (c:=[.int .i64 pl]) hc,hc.pt.may,?_,?_,hxr⟩
 .have:=Co.setK (a:=[.bool true]) (b:=[.slice ar l.length cr]) (c:=[.int .i64 pl]) (vs:=[.slice a' (l.length+1) unkU]) (o:=5) hc rfl rfl
  simpa using this
 .have:=g2.agree (H':=H'.put ⟨p,5,none⟩ [.slice a' (l.length+1) unkU]) fun k e hk q=>put_ne (hxr k hk).2.1 q
  have e1:rgC (l++[(c,c)])=rgC l++[.int .u8 c,.int .u8 c]:=by rw [rgC_app]; rfl
  simpa [e1] using this
theorem Cl.last (h:Cl X H p σ l pl ai ci ao co csI exo ar cr) {m:List Rg} {r:Rg} (hl:l=m++[r]) (c:Int) :
 ∃ b,ar=some ⟨b,0,none⟩/\ld H ⟨b,0+m.length*2,none⟩ [.int .u8 r.1]/\ld H ⟨b,0+m.length*2+1,none⟩ [.int .u8 r.2]/\KH.may H b/\
  Cl X (H.put ⟨b,0+m.length*2+1,none⟩ [.int .u8 c]) p σ (m++[(r.1,c)]) pl ai ci ao co csI exo ar cr:=by
 have hn:l.length=m.length+1:=by rw [hl]; simp
 have hg:rgC l=rgC m++[.int .u8 r.1,.int .u8 r.2]:=by rw [hl,rgC_app]; rfl
 have hrow:=h.row
 have hxr:=h.xr
 have hco:=h.co
 generalize hN:l.length=N at *
 generalize hC:rgC l=C at *
 cases hrow with
 | nil=>omega
 | on b _ e _ _ h1 h2 h3 h4 h5 h6 =>
   have hml:=rgC_len m
   have hbx:=hxr b rfl
   have hC2:C.length=m.length*2+2:=by rw [hg]; simp [hml]
   have hall:ld H ⟨b,0,none⟩ C:=⟨rfl,e,h1,by simpa using h4⟩
   have e1:(m++[(r.1,c)]).length=N:=by simp; omega
   refine ⟨b,rfl,?_,?_,⟨e,h1,h5⟩,?_,?_,hxr⟩
   .have:=ldSub hall (m.length*2) 1 (by omega)
    rw [hg,<- hml,List.drop_left] at this
    rw [<- hml]
    simpa using this
   .have:=ldSub hall (m.length*2+1) 1 (by omega)
    rw [hg,<- hml,<- List.drop_drop,List.drop_left] at this
    rw [<- hml,Nat.add_assoc]
    simpa using this
   .rw [e1]
    exact hco.agree fun k e' q hk=>put_ne (fun x=>by
     subst x
     rcases hk with hk | hk | hk | hk
     .rw [hbx.1] at hk; cases hk
     .exact hbx.2.1 hk
     .exact hbx.2.2.1 hk
     .exact hbx.2.2.2 hk) q
   .rw [e1]
    have e2:rgC (m++[(r.1,c)])=rgC m++[.int .u8 r.1]++[.int .u8 c]++[]:=by rw [rgC_app]; simp [rgC]
    have h4':rd e.cells 0 (C++[]).length=some ((rgC m++[.int .u8 r.1])++[.int .u8 r.2]++[]):=by
     rw [h4,hg]; simp
    have h7:=rdWr (o:=0+m.length*2+1) (vs:=[.int .u8 c]) h4' (by simp [hml]) rfl
    refine .on b _ ⟨wr e.cells (0+m.length*2+1) [.int .u8 c],e.len,e.unk,none⟩ _ _ (by simp only [KH.put,if_true,h1,Option.map_some]) h2 ?_ ?_ (wrB_keep h5) (by rw [e2]; simp [hml]; omega)
    .rw [e2]; simp only [List.append_nil] at h3 ⊢; rw [h3,hC2]; simp [hml]
    .have hlen:(rgC (m++[(r.1,c)])++[]).length=(C++[]).length:=by rw [e2]; simp [hC2,hml]
     rw [hlen,e2]
     simpa using h7
end
end Go.Ew
namespace Go.Proofs.Ytlgpleiobieniaa
open Go.Ev Go.Ew
namespace Va
section
variable (ok : EnvOk (env Try.prog))
include ok
theorem c99 {X H:KH} {p:Nat} {σ:RdS} {l:List Rg} {pl:Int} {Q:PQ} (h:ClX X H p σ l pl) (hq:Q (.bool (wholeC l pl)) H):Does (env Try.prog) 99 [.pointer (some ⟨p,4,none⟩)] H Q:=by
 obtain ⟨ai,ci,ao,co,csI,exo,ar,cr,h⟩:=h
 refine fn99 ok ⟨rfl,ar,_,cr,h.k1,fun h1=>⟨rfl,_,h.k2,?_⟩,fun h1=>?_⟩
 .have h1:0<l.length:=by have:=of_decide_eq_true h1; omega
  have:wholeC l pl=decide (pl≠2):=by unfold wholeC; rw [decide_eq_true h1,Bool.true_and]
  rw [this] at hq
  exact hq
 .have h1:¬ 0<l.length:=by have:=of_decide_eq_false h1; omega
  have:wholeC l pl=false:=by unfold wholeC; rw [decide_eq_false h1,Bool.false_and]
  rw [this] at hq
  exact hq
theorem c89 {X H:KH} {p:Nat} {σ:RdS} {l:List Rg} {pl:Int} {Q:PQ} (h:ClX X H p σ l pl) (hn:pl≠1->Q (.bool false) H) (hq:pl=1->∀ H',ClX X H' p σ l 2->Q (.bool true) H'):Does (env Try.prog) 89 [.pointer (some ⟨p,4,none⟩)] H Q:=by
 obtain ⟨ai,ci,ao,co,csI,exo,ar,cr,h⟩:=h
 refine fn89 ok ⟨rfl,_,h.k2,fun h1=>hn (by simpa using h1),fun h1=>⟨rfl,stOk h.k2 rfl,h.co.pt.may,hq (by simpa using h1) _ ⟨_,_,_,_,_,_,_,_,h.place 2⟩⟩⟩
theorem c88 {X H:KH} {p:Nat} {σ:RdS} {l:List Rg} {pl c:Int} {Q:PQ} (h:ClX X H p σ l pl) (hs:l.length<=1000) (hpl:pl=2->l≠[]) (hn:addC l pl c=none->Q (.bool false) H) (hq:∀ m pl',addC l pl c=some (m,pl')->∀ H',ClX X H' p σ m pl'->Q (.bool true) H'):Does (env Try.prog) 88 [.pointer (some ⟨p,4,none⟩),.int .u8 c] H Q:=by
 obtain ⟨ai,ci,ao,co,csI,exo,ar,cr,h⟩:=h
 refine fn88 ok ⟨rfl,_,h.k2,fun h1=>⟨rfl,ar,_,cr,h.k1,fun n5 hn5 n6 hn6=>?_⟩,fun h1=>?_⟩
 .have h1:pl≠2:=by simpa using h1
  have h2:Cl X (H.new n5 (mkEnt [.int .u8 c,.int .u8 c] 0)) p σ l pl ai ci ao co csI exo ar cr:=⟨h.co.sub (Le.new hn5),h.row.agree fun k e _ q=>Le.new hn5 _ _ q,h.xr⟩
  obtain ⟨a',H',g1,g2,g3,g4⟩:=h2.more hs (c:=c) hn6
  refine ⟨1,_,knew_of (lit_kold (if_pos rfl) rfl),a',_,_,H',g1,rfl,stOk g2 rfl,g3,rfl,stOk g4.k2 rfl,g4.co.pt.may,hq _ _ (if_pos h1) _ ?_⟩
  have:=g4.place 1
  exact ⟨_,_,_,_,_,_,_,_,this⟩
 .have h1:pl=2:=by simpa using h1
  obtain ⟨m,r,hl⟩:∃ m r,l=m++[r]:=⟨l.dropLast,l.getLast (hpl h1),(List.dropLast_concat_getLast _).symm⟩
  have hn1:l.length=m.length+1:=by rw [hl]; simp
  have hlast:l.getLast? = some r:=by rw [hl]; simp
  have hdrop:l.dropLast=m:=by rw [hl]; simp
  have hw:IntKind.wrap .i64 (((l.length:Nat):Int)-1)=((m.length:Nat):Int):=by rw [wrap64 (by omega) (by omega)]; omega
  obtain ⟨b,rfl,g1,g2,g3,g4⟩:=h.last hl c
  have e0:Int.toNat ((m.length:Nat):Int)=m.length:=by omega
  refine ⟨rfl,_,_,_,h.k1,?_⟩
  rw [hw,e0]
  refine ⟨rfl,_,_,_,h.k1,⟨by omega,by omega⟩,b,0,rfl,rfl,_,by simpa using g1,fun h2=>?_,fun h2=>?_⟩
  .have h2:=of_decide_eq_true h2
   exact hn (by unfold addC; rw [if_neg (by simpa using h1),hlast]; simp only [if_pos h2])
  .have h2:=of_decide_eq_false h2
   refine ⟨rfl,_,_,_,h.k1,⟨by omega,by omega⟩,b,0,rfl,rfl,?_⟩
   refine ⟨stOk g2 rfl,g3,rfl,stOk g4.k2 rfl,g4.co.pt.may,hq _ _ ?_ _ ⟨_,_,_,_,_,_,_,_,g4.place 0⟩⟩
   unfold addC
   rw [if_neg (by simpa using h1),hlast]
   simp only [if_neg h2,hdrop]
theorem c95 {X H:KH} {p:Nat} {σ:RdS} {Q:PQ} (h:CoX X H p σ shut) (hn:openC σ=none->Q (.bool false) H) (hq:∀ τ,openC σ=some τ->∀ H',Fu X H' p τ->Q (.bool true) H'):Does (env Try.prog) 95 [.pointer (some ⟨p,0,none⟩)] H Q:=by
 refine fn95 ok (c101 ok h ⟨_,rfl,fun h1=>?_,fun h1=>?_⟩)
 .exact hn (if_neg (by simpa using h1))
 .have h1:σ.outer.length<12:=by simpa using h1
  obtain ⟨ai,ci,ao,co,csI,exo,h⟩:=h
  have hk:ld H ⟨p,4,none⟩ shut:=Co.k (a:=[]) (b:=shut) (c:=[]) h
  refine ⟨rfl,stOk hk rfl,h.pt.may,hq _ (if_pos h1) _ ?_⟩
  have h2:=Co.setK (a:=[]) (b:=shut) (c:=[]) (vs:=[.bool true,.slice none 0 0,.int .i64 0]) (o:=4) h rfl rfl
  have h2:Co X (H.put ⟨p,4,none⟩ [.bool true,.slice none 0 0,.int .i64 0]) p { σ with cls:=some ([],0) } [.bool true,.slice none 0 0,.int .i64 0] ai ci ao co csI exo:=⟨h2.pt,h2.xi,h2.xo,h2.items,h2.itc,h2.outer,h2.small⟩
  exact ⟨ai,ci,ao,co,csI,exo,none,0,h2,.nil,fun b q=>by cases q⟩
theorem c90 {X H:KH} {p:Nat} {σ:RdS} {l:List Rg} {pl:Int} {Q:PQ} (h:ClX X H p σ l pl) (hs:σ.items.length<=900) (hn:wholeC l pl=false->Q (.bool false) H) (hq:wholeC l pl=true->∀ X' H',Le X X'->CoX X' H' p (addClassR σ l) shut->Q (.bool true) H'):Does (env Try.prog) 90 [.pointer (some ⟨p,0,none⟩)] H Q:=by
 have h0:=h
 obtain ⟨ai,ci,ao,co,csI,exo,ar,cr,h⟩:=h
 refine fn90 ok ⟨rfl,c99 ok h0 ⟨_,rfl,fun h1=>hn (by simpa using h1),fun h1=>?_⟩⟩
 have h1:wholeC l pl=true:=by simpa using h1
 obtain ⟨X1,hle,hc,hk⟩:=h.known
 refine ⟨rfl,rfl,ar,_,cr,h.k1,c82 ok ⟨_,_,_,_,_,_,hc⟩ hs hk fun H5 hd=>?_⟩
 obtain ⟨ai,ci,ao,co,csI,exo,hd⟩:=hd
 have hkk:ld H5 ⟨p,4,none⟩ [.bool true,.slice ar l.length cr,.int .i64 pl]:=Co.k (a:=[]) (b:=[.bool true,.slice ar l.length cr,.int .i64 pl]) (c:=[]) hd
 have h2:=Co.setK (a:=[]) (b:=[.bool true,.slice ar l.length cr,.int .i64 pl]) (c:=[]) (vs:=shut) (o:=4) hd rfl rfl
 exact ⟨rfl,rfl,stOk hkk rfl,hd.pt.may,hq h1 X1 _ hle ⟨_,_,_,_,_,_,h2⟩⟩
end
end Va
end Go.Proofs.Ytlgpleiobieniaa
namespace Go.Ew
open Go.Ev Go.Deep
theorem does_idx {E:Env} {g:Nat} {x:ByteArray} {c:Int} {H:KH} {Q:PQ} (h0:Nat.blt g unkU=true) (h1:(tget E.ff g).isNone=true) (h2:tget E.xx g=some 3) (hq:Q (.int .i64 (idxB x c)) H):Does E g [.string x,.int .u8 c] H Q:=by
 have h1:tget E.ff g=none:=by
  cases h:tget E.ff g with
  | none=>rfl
  | some f=>rw [h] at h1; cases h1
 refine ⟨blt_lt h0,fun h wf know=>⟨_,h,H,⟨0,fun m _=>?_⟩,hq,wf,know,Nat.le_refl _,fun _ _ _=>rfl,fun k q=>.inl q⟩⟩
 simp only [callA,h0,cond_true,h1,xext,h2]
def marksS:ByteArray:=ByteArray.mk #[40,41,91,93,124,42,43,63,46,92]
def clsS:ByteArray:=ByteArray.mk #[93,45,92]
theorem marks_all:∀ n:Nat,n<256->decide (0<=idxB marksS (n:Int))=decide ((n:Int)∈marksB):=by decide +kernel
theorem cls_all:∀ n:Nat,n<256->decide (0<=idxB clsS (n:Int))=decide ((n:Int)∈clsB):=by decide +kernel
theorem marks_in {c:Int} (h:0<=c/\c<256):decide (0<=idxB marksS c)=decide (c∈marksB):=by
 have:=marks_all c.toNat (by omega)
 rwa [Int.toNat_of_nonneg h.1] at this
theorem cls_in {c:Int} (h:0<=c/\c<256):decide (0<=idxB clsS c)=decide (c∈clsB):=by
 have:=cls_all c.toNat (by omega)
 rwa [Int.toNat_of_nonneg h.1] at this
def Wf (n:Nat) (σ:RdS):Prop:=σ.items.length<=3*n/\∀ l pl,σ.cls=some (l,pl)->l.length<=n/\(pl≠0->l≠[])
theorem join_cls (σ:RdS):(joinR σ).cls=σ.cls:=by unfold joinR putR; split<;>rfl
theorem end_cls {σ τ:RdS} (h:endR σ=some τ):τ.cls=σ.cls:=by
 unfold endR at h
 split at h
 .cases h
 .cases h
  show (if (joinR σ).parted=true then putR (joinR σ) 3 else joinR σ).cls=_
  split
  .exact join_cls σ
  .exact join_cls σ
theorem wf_none {n m:Nat} {σ:RdS} (h1:σ.items.length<=3*m) (h2:σ.cls=none):Wf m σ:=⟨h1,fun l pl q=>by rw [h2] at q; cases q⟩
theorem add_len (σ:RdS) (l:List Rg):(addClassR σ l).items.length<=σ.items.length+2:=by
 have:=join_len σ
 simp only [addClassR,List.length_append,List.length_cons,List.length_nil]
 omega
theorem add_cls (σ:RdS) (l:List Rg):(addClassR σ l).cls=σ.cls:=join_cls σ
theorem mark_wf {n:Nat} {σ τ:RdS} {c:Int} (h:σ.items.length<=3*n) (hc:σ.cls=none) (ht:markR σ c=some τ):Wf (n+1) τ:=by
 have hj:=join_len σ
 unfold markR at ht
 split at ht
 .unfold openR at ht
  split at ht
  .cases ht
   refine wf_none (n:=n) ?_ ?_
   .show (joinR σ).items.length<=_; omega
   .show (joinR σ).cls=_; rw [join_cls,hc]
  .cases ht
 split at ht
 .unfold closeR at ht
  split at ht
  .cases ht
  .split at ht
   .cases ht
   .rename_i τ' he
    cases ht
    have:=end_len he
    refine wf_none (n:=n) ?_ ?_
    .show τ'.items.length<=_; omega
    .show τ'.cls=_; rw [end_cls he,hc]
 split at ht
 .unfold openC at ht
  split at ht
  .cases ht
   refine ⟨by show σ.items.length<=_; omega,fun l pl q=>?_⟩
   cases q
   exact ⟨by simp,fun q=>absurd rfl q⟩
  .cases ht
 split at ht
 .cases ht
  have:=add_len σ [(32,126)]
  exact wf_none (n:=n) (by omega) (by rw [add_cls,hc])
 split at ht
 .have:=end_len ht
  exact wf_none (n:=n) (by omega) (by rw [end_cls ht,hc])
 have rep:∀ op,repeatR σ op=some τ->Wf (n+1) τ:=fun op ht=>by
  unfold repeatR at ht
  split at ht
  .cases ht
  .cases ht
   exact wf_none (n:=n) (by simp [putR]; omega) hc
 split at ht
 .exact rep _ ht
 split at ht
 .exact rep _ ht
 split at ht
 .exact rep _ ht
 .cases ht
theorem addC_wf {n:Nat} {l m:List Rg} {pl pl' c:Int} (hl:l.length<=n) (h:addC l pl c=some (m,pl')):m.length<=n+1/\(pl'≠0->m≠[]):=by
 unfold addC at h
 split at h
 .cases h
  exact ⟨by simp; omega,fun _=>by simp⟩
 .split at h
  .cases h
  .split at h
   .cases h
   .cases h
    exact ⟨by simp; omega,fun q=>absurd rfl q⟩
theorem take_wf {n:Nat} {σ τ:RdS} {c:Int} {esc:Bool} (h:Wf n σ) (ht:takeR σ c esc=some τ):Wf (n+1) τ:=by
 obtain ⟨h1,h2⟩:=h
 unfold takeR at ht
 split at ht
 .rename_i l pl hc
  obtain ⟨g1,g2⟩:=h2 l pl hc
  unfold inClassR at ht
  split at ht
  .split at ht
   .rename_i x hx
    cases ht
    refine ⟨by show σ.items.length<=_; omega,fun m pl' q=>?_⟩
    have q:x=(m,pl'):=Option.some.inj q
    subst q
    exact addC_wf g1 hx
   .cases ht
  .split at ht
   .split at ht
    .rename_i hp
     cases ht
     refine ⟨by show σ.items.length<=_; omega,fun m pl' q=>?_⟩
     have q:(l,(2:Int))=(m,pl'):=Option.some.inj q
     cases q
     exact ⟨by omega,fun _=>g2 (by omega)⟩
    .cases ht
   .split at ht
    .split at ht
     .cases ht
      have:=add_len σ l
      refine wf_none (n:=n) ?_ rfl
      show (addClassR σ l).items.length<=_
      omega
     .cases ht
    .cases ht
 .rename_i hc
  split at ht
  .cases ht
   have:=add_len σ [(c,c)]
   exact wf_none (n:=n) (by omega) (by rw [add_cls,hc])
  .exact mark_wf h1 hc ht
theorem Fu.le {X H:KH} {p:Nat} {σ:RdS} (h:Fu X H p σ):Le X H:=by
 unfold Fu at h
 split at h
 .obtain ⟨_,_,_,_,_,_,h⟩:=h; exact h.pt.le
 .obtain ⟨_,_,_,_,_,_,_,_,h⟩:=h; exact h.co.pt.le
theorem CoX.le {X H:KH} {p:Nat} {σ:RdS} {kc:List Value} (h:CoX X H p σ kc):Le X H:=by
 obtain ⟨_,_,_,_,_,_,h⟩:=h; exact h.pt.le
theorem ClX.le {X H:KH} {p:Nat} {σ:RdS} {l:List Rg} {pl:Int} (h:ClX X H p σ l pl):Le X H:=by
 obtain ⟨_,_,_,_,_,_,_,_,h⟩:=h; exact h.co.pt.le
theorem Fu.of_none {X H:KH} {p:Nat} {σ:RdS} (hc:σ.cls=none) (h:CoX X H p σ shut):Fu X H p σ:=by
 unfold Fu; rw [hc]; exact h
theorem Fu.none {X H:KH} {p:Nat} {σ:RdS} (h:Fu X H p σ) (hc:σ.cls=Option.none):CoX X H p σ shut:=by
 unfold Fu at h; rw [hc] at h; exact h
theorem Fu.some {X H:KH} {p:Nat} {σ:RdS} {l:List Rg} {pl:Int} (h:Fu X H p σ) (hc:σ.cls=Option.some (l,pl)):ClX X H p σ l pl:=by
 unfold Fu at h; rw [hc] at h; exact h
theorem CoX.cls {X H:KH} {p:Nat} {σ:RdS} {kc:List Value} (h:CoX X H p σ kc) (x:Option (List Rg × Int)):CoX X H p { σ with cls:=x } kc:=by
 obtain ⟨ai,ci,ao,co,csI,exo,h⟩:=h
 exact ⟨ai,ci,ao,co,csI,exo,h.pt,h.xi,h.xo,h.items,h.itc,h.outer,h.small⟩
theorem ClX.cls {X H:KH} {p:Nat} {σ:RdS} {l:List Rg} {pl:Int} (h:ClX X H p σ l pl):Fu X H p { σ with cls:=some (l,pl) }:=by
 obtain ⟨ai,ci,ao,co,csI,exo,ar,cr,h⟩:=h
 exact ⟨ai,ci,ao,co,csI,exo,ar,cr,⟨h.co.pt,h.co.xi,h.co.xo,h.co.items,h.co.itc,h.co.outer,h.co.small⟩,h.row,h.xr⟩
end Go.Ew
namespace Go.Proofs.Ytlgpleiobieniaa
open Go.Ev Go.Ew
namespace Va
section
variable (ok : EnvOk (env Try.prog))
include ok
theorem c91 {s:ByteArray} {c:Int} {H:KH} {Q:PQ} (hq:Q (.int .i64 (idxB s c)) H):Does (env Try.prog) 91 [.string s,.int .u8 c] H Q :=
 fn91 ok (fn100 ok (does_idx (by kernel_rfl) (by kernel_rfl) (by kernel_rfl) ⟨_,rfl,_,rfl,hq⟩))
theorem c81 {s:ByteArray} {L:List Int} {c:Int} {esc:Bool} {H:KH} {Q:PQ} (hL:decide (0<=idxB s c)=decide (c∈L)) (hq:Q (.bool (standsB c esc L)) H):Does (env Try.prog) 81 [.agg #[.int .u8 c,.bool esc],.string s] H Q:=by
 refine fn81 ok (c91 ok ⟨_,rfl,fun h1=>⟨fun h2=>?_,fun h2=>?_⟩,fun h1=>?_⟩)
 .rw [hL]; unfold standsB at hq; rw [h1,h2,Bool.true_and,Bool.true_and] at hq; exact hq
 .unfold standsB at hq; rw [h2,Bool.false_and,Bool.and_false] at hq; exact hq
 .unfold standsB at hq; rw [h1,Bool.false_and] at hq; exact hq
theorem c83 {X H:KH} {p:Nat} {σ:RdS} {c:Int} {Q:PQ} (h:CoX X H p σ shut) (hcl:σ.cls=none) (hs:σ.items.length<=900) (hn:markR σ c=none->∀ H',Le X H'->Q (.bool false) H') (hq:∀ τ,markR σ c=some τ->∀ X' H',Le X X'->Fu X' H' p τ->Q (.bool true) H'):Does (env Try.prog) 83 [.pointer (some ⟨p,0,none⟩),.int .u8 c] H Q:=by
 have hle:=h.le
 unfold markR at hn hq
 refine fn83 ok ⟨fun h1=>?_,fun h1=>⟨fun h2=>?_,fun h2=>⟨fun h3=>?_,fun h3=>⟨fun h4=>?_,fun h4=>⟨fun h5=>?_,fun h5=>⟨fun h6=>?_,fun h6=>⟨fun h7=>?_,fun h7=>⟨fun h8=>?_,fun h8=>?_⟩⟩⟩⟩⟩⟩⟩⟩
 .rw [if_pos (by simpa using h1)] at hn hq
  exact c93 ok h hs (fun e=>⟨_,rfl,hn e _ hle⟩) fun τ e H' hc=>⟨_,rfl,hq τ e X H' (Le.refl _) (Fu.of_none (by unfold openR at e; split at e<;>cases e; show (joinR σ).cls=_; rw [join_cls,hcl]) hc)⟩
 .rw [if_neg (by simpa using h1),if_pos (by simpa using h2)] at hn hq
  refine c94 ok h hs (fun e=>⟨_,rfl,hn e _ hle⟩) fun τ e H' hc=>⟨_,rfl,hq τ e X H' (Le.refl _) (Fu.of_none ?_ hc)⟩
  unfold closeR at e
  split at e
  .cases e
  .split at e
   .cases e
   .rename_i he
    cases e
    show RdS.cls _=_
    rw [end_cls he,hcl]
 .rw [if_neg (by simpa using h1),if_neg (by simpa using h2),if_pos (by simpa using h3)] at hn hq
  exact c95 ok h (fun e=>⟨_,rfl,hn e _ hle⟩) fun τ e H' hc=>⟨_,rfl,hq τ e X H' (Le.refl _) hc⟩
 .rw [if_neg (by simpa using h1),if_neg (by simpa using h2),if_neg (by simpa using h3),if_pos (by simpa using h4)] at hn hq
  intro n10 hn10
  obtain ⟨ai,ci,ao,co,csI,exo,h⟩:=h
  have h9:=h.lit (e:=mkEnt [.int .u8 32,.int .u8 126] 0) hn10
  exact c82 ok (l:=[(32,126)]) ⟨_,_,_,_,_,_,h9⟩ hs (lit_kold (if_pos rfl) rfl) fun H' hc=>⟨rfl,hq _ rfl _ H' (Le.new (hle.none hn10)) (Fu.of_none (by rw [add_cls,hcl]) hc)⟩
 .rw [if_neg (by simpa using h1),if_neg (by simpa using h2),if_neg (by simpa using h3),if_neg (by simpa using h4),if_pos (by simpa using h5)] at hn hq
  exact c84 ok h hs (fun e=>⟨_,rfl,hn e _ hle⟩) fun τ e H' hc=>⟨_,rfl,hq τ e X H' (Le.refl _) (Fu.of_none (by rw [end_cls e,hcl]) hc)⟩
 .rw [if_neg (by simpa using h1),if_neg (by simpa using h2),if_neg (by simpa using h3),if_neg (by simpa using h4),if_neg (by simpa using h5),if_pos (by simpa using h6)] at hn hq
  exact c96 ok h (by omega) (fun e H' hc=>⟨_,rfl,hn e _ hc.le⟩) fun τ e H' hc=>⟨_,rfl,hq τ e X H' (Le.refl _) (Fu.of_none (by unfold repeatR at e; split at e<;>cases e; exact hcl) hc)⟩
 .rw [if_neg (by simpa using h1),if_neg (by simpa using h2),if_neg (by simpa using h3),if_neg (by simpa using h4),if_neg (by simpa using h5),if_neg (by simpa using h6),if_pos (by simpa using h7)] at hn hq
  exact c96 ok h (by omega) (fun e H' hc=>⟨_,rfl,hn e _ hc.le⟩) fun τ e H' hc=>⟨_,rfl,hq τ e X H' (Le.refl _) (Fu.of_none (by unfold repeatR at e; split at e<;>cases e; exact hcl) hc)⟩
 .rw [if_neg (by simpa using h1),if_neg (by simpa using h2),if_neg (by simpa using h3),if_neg (by simpa using h4),if_neg (by simpa using h5),if_neg (by simpa using h6),if_neg (by simpa using h7),if_pos (by simpa using h8)] at hn hq
  exact c96 ok h (by omega) (fun e H' hc=>⟨_,rfl,hn e _ hc.le⟩) fun τ e H' hc=>⟨_,rfl,hq τ e X H' (Le.refl _) (Fu.of_none (by unfold repeatR at e; split at e<;>cases e; exact hcl) hc)⟩
 .rw [if_neg (by simpa using h1),if_neg (by simpa using h2),if_neg (by simpa using h3),if_neg (by simpa using h4),if_neg (by simpa using h5),if_neg (by simpa using h6),if_neg (by simpa using h7),if_neg (by simpa using h8)] at hn
  exact hn rfl _ hle
theorem c80 {X H:KH} {p:Nat} {σ:RdS} {l:List Rg} {pl c:Int} {esc:Bool} {Q:PQ} (h:ClX X H p σ l pl) (hs:σ.items.length<=900) (hl:l.length<=900) (hpl:pl≠0->l≠[]) (hc:0<=c/\c<256) (hn:inClassR σ l pl c esc=none->∀ H',Le X H'->Q (.bool false) H') (hq:∀ τ,inClassR σ l pl c esc=some τ->∀ X' H',Le X X'->Fu X' H' p τ->Q (.bool true) H'):Does (env Try.prog) 80 [.pointer (some ⟨p,0,none⟩),.agg #[.int .u8 c,.bool esc]] H Q:=by
 have hle:=h.le
 unfold inClassR at hn hq
 refine fn80 ok (c81 ok (s:=clsS) (cls_in hc) ⟨_,rfl,fun h1=>?_,fun h1=>⟨fun h2=>?_,fun h2=>⟨fun h3=>?_,fun h3=>?_⟩⟩⟩)
 .rw [if_pos h1] at hn hq
  refine ⟨trivial,rfl,c88 ok h (by omega) (fun e=>hpl (by omega)) (fun e=>⟨_,rfl,trivial,hn (by rw [e]) _ hle⟩) fun m pl' e H' hd=>⟨_,rfl,trivial,hq _ (by rw [e]) X H' (Le.refl _) hd.cls⟩⟩
 .rw [if_neg (by rw [h1]; decide),if_pos (by simpa using h2)] at hn hq
  exact ⟨rfl,c89 ok h (fun e=>⟨_,rfl,hn (if_neg e) _ hle⟩) fun e H' hd=>⟨_,rfl,hq _ (if_pos e) X H' (Le.refl _) hd.cls⟩⟩
 .rw [if_neg (by rw [h1]; decide),if_neg (by simpa using h2),if_pos (by simpa using h3)] at hn hq
  exact c90 ok h hs (fun e=>⟨_,rfl,hn (if_neg (by rw [e]; decide)) _ hle⟩) fun e X' H' hx hd=>⟨_,rfl,hq _ (if_pos e) X' H' hx (Fu.of_none rfl (hd.cls _))⟩
 .rw [if_neg (by rw [h1]; decide),if_neg (by simpa using h2),if_neg (by simpa using h3)] at hn
  exact hn rfl _ hle
theorem c72 {X H:KH} {p:Nat} {σ:RdS} {c:Int} {esc:Bool} {n:Nat} {Q:PQ} (h:Fu X H p σ) (hw:Wf n σ) (hn300:n<=300) (hc:0<=c/\c<256) (hn:takeR σ c esc=none->∀ H',Le X H'->Q (.bool false) H') (hq:∀ τ,takeR σ c esc=some τ->∀ X' H',Le X X'->Fu X' H' p τ->Q (.bool true) H'):Does (env Try.prog) 72 [.pointer (some ⟨p,0,none⟩),.agg #[.int .u8 c,.bool esc]] H Q:=by
 have hle:=h.le
 obtain ⟨w1,w2⟩:=hw
 unfold takeR at hn hq
 cases hcl:σ.cls with
 | some x =>
   obtain ⟨l,pl⟩:=x
   rw [hcl] at hn hq
   have h':=h.some hcl
   obtain ⟨g1,g2⟩:=w2 l pl hcl
   have hk0:ld H ⟨p,4,none⟩ [.bool true]:=by
    obtain ⟨ai,ci,ao,co,csI,exo,ar,cr,h1⟩:=h'
    exact h1.k0
   exact fn72 ok ⟨rfl,rfl,true,hk0,fun _=>c80 ok h' (by omega) (by omega) g2 hc (fun e H' hl=>⟨_,rfl,hn e H' hl⟩) fun τ e X' H' hl hf=>⟨_,rfl,hq τ e X' H' hl hf⟩,fun e=>by cases e⟩
 | none =>
   rw [hcl] at hn hq
   have h':=h.none hcl
   have hk0:ld H ⟨p,4,none⟩ [.bool false]:=by
    obtain ⟨ai,ci,ao,co,csI,exo,h1⟩:=h'
    exact Co.k (a:=[]) (b:=[.bool false]) (c:=[.slice none 0 0,.int .i64 0]) h1
   refine fn72 ok ⟨rfl,rfl,false,hk0,fun e=>(by cases e),fun _=>c81 ok (s:=marksS) (marks_in hc) ⟨_,rfl,fun h1 n4 hn4=>?_,fun h1=>?_⟩⟩
   .obtain ⟨ai,ci,ao,co,csI,exo,h2⟩:=h'
    have h9:=h2.lit (e:=mkEnt [.int .u8 c,.int .u8 c] 0) hn4
    exact c82 ok (l:=[(c,c)]) ⟨_,_,_,_,_,_,h9⟩ (by omega) (lit_kold (if_pos rfl) rfl) fun H' hd=>⟨rfl,hq _ (if_pos h1) _ H' (Le.new (hle.none hn4)) (Fu.of_none (by rw [add_cls,hcl]) hd)⟩
   .have e1:¬ standsB c esc marksB=true:=by rw [h1]; decide
    exact c83 ok h' hcl (by omega) (fun e H' hl=>⟨_,rfl,hn ((if_neg e1).trans e) H' hl⟩) fun τ e X' H' hl hf=>⟨_,rfl,hq τ ((if_neg e1).trans e) X' H' hl hf⟩
theorem c73 {X H:KH} {p:Nat} {σ:RdS} {Q:PQ} (h:Fu X H p σ) (hs:σ.items.length<=900) (hn:finR σ=none->Q (.bool false) H) (hq:∀ τ,finR σ=some τ->∀ H',CoX X H' p τ shut->Q (.bool true) H'):Does (env Try.prog) 73 [.pointer (some ⟨p,0,none⟩)] H Q:=by
 unfold finR at hn hq
 cases hcl:σ.cls with
 | some x =>
   obtain ⟨l,pl⟩:=x
   rw [hcl] at hn
   have h':=h.some hcl
   have hk0:ld H ⟨p,4,none⟩ [.bool true]:=by
    obtain ⟨ai,ci,ao,co,csI,exo,ar,cr,h1⟩:=h'
    exact h1.k0
   exact fn73 ok ⟨rfl,rfl,true,hk0,fun e=>(by cases e),fun _=>hn rfl⟩
 | none =>
   rw [hcl] at hn hq
   have h':=h.none hcl
   obtain ⟨ai,ci,ao,co,csI,exo,h1⟩:=h'
   have hk0:ld H ⟨p,4,none⟩ [.bool false]:=Co.k (a:=[]) (b:=[.bool false]) (c:=[.slice none 0 0,.int .i64 0]) h1
   refine fn73 ok ⟨rfl,rfl,false,hk0,fun _=>⟨rfl,_,_,_,h1.c1,fun e=>?_,fun e=>?_⟩,fun e=>by cases e⟩
   .have e:σ.outer.length=0:=by have:=of_decide_eq_true e; omega
    exact c84 ok ⟨_,_,_,_,_,_,h1⟩ hs (fun q=>⟨_,rfl,hn ((if_pos e).trans q)⟩) fun τ q H' hd=>⟨_,rfl,hq τ ((if_pos e).trans q) H' hd⟩
   .have e:¬ σ.outer.length=0:=by have:=of_decide_eq_false e; omega
    exact hn (if_neg e)
end
end Va
end Go.Proofs.Ytlgpleiobieniaa
namespace Go.Ew
open Go.Ev Go.Deep
def bytesI (s:ByteArray):List Int:=s.data.toList.map fun b=>(b.toNat:Int)
def letL:List Int->Bool->List (Int × Bool)
 | [],_=>[]
 | c :: r,esc=>if c=92/\esc=false/\r≠[] then letL r true else (c,esc) :: letL r false
def foldT:RdS->List (Int × Bool)->Option RdS
 | σ,[]=>some σ
 | σ,(c,e) :: r=>match takeR σ c e with
   | none=>none
   | some τ=>foldT τ r
def rd0:RdS:=⟨[],[],false,0,none⟩
def readR (s:ByteArray):Option (List It):=match foldT rd0 (letL (bytesI s) false) with
 | none=>none
 | some σ=>match finR σ with
   | none=>none
   | some τ=>some τ.items
def parseR (s:ByteArray):Option (List It):=if s.size<1\/24<s.size then none else readR s
theorem bytes_len (s:ByteArray):(bytesI s).length=s.size:=by
 unfold bytesI
 rw [List.length_map,Array.length_toList]
 rfl
theorem bytes_drop {s:ByteArray} {i:Nat} (h:i<s.size):(bytesI s).drop i=byteAt s i :: (bytesI s).drop (i+1):=by
 have hl:i<(bytesI s).length:=by rw [bytes_len]; exact h
 rw [List.drop_eq_getElem_cons hl]
 congr 1
 have:s.data.toList[i]? = some (s.data.toList[i]'(by simpa [bytesI] using hl)):=by simp
 simp only [byteAt,this,Option.getD_some,bytesI,List.getElem_map]
theorem byteAt_in (s:ByteArray) (i:Nat):0<=byteAt s i/\byteAt s i<256:=by
 unfold byteAt
 have:=((s.data.toList[i]?).getD 0).toNat_lt
 omega
theorem let_len:∀ (l:List Int) (b:Bool),(letL l b).length<=l.length
 | [],b=>by simp [letL]
 | c :: r,b=>by
   simp only [letL]
   split
   .have:=let_len r true; simp; omega
   .have:=let_len r false; simp; omega
def ItR (H:KH) (l:List It) (a:OA):Prop:=∃ cs,kold H 2 a l.length=some cs/\ItC H l cs
theorem Gr.slok {H:KH} {sz n c:Nat} {a:OA} {cs ex:List Value} (h:Gr H sz a n c cs ex) (hsz:1<=sz):SlOk H sz a n c:=by
 cases h with
 | nil=>rfl
 | on b _ e _ _ h1 h2 h3 h4 h5 h6 =>
   have hb:Nat.blt unkU unkU=false:=rfl
   have hc:(Nat.beq sz sz&&Nat.beq 0 0&&Nat.ble 1 sz&&Nat.ble 0 e.len)=true:=by
    simp only [Bool.and_eq_true]
    exact ⟨⟨⟨by simp,rfl⟩,Nat.ble_eq_true_of_le hsz⟩,Nat.ble_eq_true_of_le (Nat.zero_le _)⟩
   refine .inl ⟨rfl,e.len/sz,?_,?_⟩
   .unfold kcap
    simp only [hb,cond_false,h1,h2,Nat.sub_self,Nat.zero_mul]
    rw [hc]
    simp only [cond_true,Nat.sub_zero]
   .rw [h3,List.length_append,h6]
    exact (Nat.le_div_iff_mul_le (by omega)).2 (by omega)
end Go.Ew
namespace Go.Proofs.Ytlgpleiobieniaa
open Go.Ev Go.Ew
namespace Va
section
variable (ok : EnvOk (env Try.prog))
include ok
theorem c79 {s:ByteArray} {l kb ko:Nat} {H:KH} {Q:PQ} (Inv:List (Int × Bool)->KH->Prop)
 (hcell:∀ r H1,Inv r H1->ld H1 ⟨kb,ko,none⟩ [.string s])
 (hstep:∀ c e r H1,Inv ((c,e) :: r) H1->0<=c/\c<256->DoesR (env Try.prog) l [.agg #[.int .u8 c,.bool e]] H1 fun v H2=>(v = .bool true/\Inv r H2)\/(v = .bool false/\Q (.tuple #[]) H2))
 (hend:∀ H1,Inv [] H1->Q (.tuple #[]) H1) (hs:s.size<=1000000) (h0:Inv (letL (bytesI s) false) H):Does (env Try.prog) 79 [.func (.yield l) #[] #[],.pointer (some ⟨kb,ko,none⟩)] H Q:=by
 refine fn79 ok ⟨s,hcell _ _ h0,?_⟩
 unfold vc79_L2
 refine ⟨fun m n4 n5 n6 b7 x8 x9 H10=>n4=l/\n5=kb/\n6=ko/\x8=(s.size:Nat)/\∃ i:Nat,x9=i/\i<=s.size/\m=s.size-i/\Inv (letL ((bytesI s).drop i) b7) H10,⟨s.size,rfl,rfl,rfl,rfl,rfl,0,rfl,by omega,rfl,by simpa using h0⟩,?_⟩
 rintro m n4 n5 n6 b7 x8 x9 H10 ⟨rfl,rfl,rfl,rfl,i,rfl,hi,rfl,hinv⟩
 refine ⟨fun hlt=>?_,fun hge=>?_⟩
 .have hlt:i<s.size:=by have:=of_decide_eq_true hlt; omega
  have hw:IntKind.wrap .i64 (((i:Nat):Int)+1)=((i+1:Nat):Int):=by rw [wrap64 (by omega) (by omega)]; omega
  have e0:Int.toNat ((i:Nat):Int)=i:=by omega
  have hc:=hcell _ _ hinv
  have hd:=bytes_drop hlt
  rw [hd] at hinv
  have hr:(bytesI s).drop (i+1)≠[]↔i+1<s.size:=by
   rw [Ne,List.drop_eq_nil_iff,bytes_len]; omega
  have join:¬ (byteAt s i=92/\b7=false/\(bytesI s).drop (i+1)≠[])->vc79_J0 H10 n5 n6 (i:Nat) n4 b7 Q (s.size-i) (fun m n4' n5' n6' b7 x8 x9 H10=>n4'=n4/\n5'=n5/\n6'=n6/\x8=(s.size:Nat)/\∃ i:Nat,x9=i/\i<=s.size/\m=s.size-i/\Inv (letL ((bytesI s).drop i) b7) H10) (s.size:Nat):=by
   intro hno
   rw [letL,if_neg hno] at hinv
   unfold vc79_J0
   rw [hw,e0]
   refine ⟨s,hc,⟨by omega,by omega⟩,(hstep _ _ _ _ hinv (byteAt_in s i)).post fun v H3 hv=>?_⟩
   rcases hv with ⟨rfl,hv⟩ | ⟨rfl,hv⟩
   .exact ⟨true,rfl,fun h=>(by cases h),fun _=>⟨s.size-(i+1),by omega,rfl,rfl,rfl,rfl,rfl,i+1,rfl,by omega,rfl,hv⟩⟩
   .exact ⟨false,rfl,fun _=>hv,fun h=>by cases h⟩
  refine ⟨s,hc,⟨by omega,by omega⟩,fun h1=>⟨fun h2=>⟨s,hc,fun h3=>?_,fun h3=>?_⟩,fun h2=>?_⟩,fun h1=>?_⟩
  .rw [e0] at h1
   rw [hw] at h3
   have h3:=of_decide_eq_true h3
   have hyes:byteAt s i=92/\b7=false/\(bytesI s).drop (i+1)≠[]:=⟨of_decide_eq_true h1,by simpa using h2,hr.2 (by omega)⟩
   rw [letL,if_pos hyes] at hinv
   exact ⟨s.size-(i+1),by omega,rfl,rfl,rfl,rfl,rfl,i+1,hw,by omega,rfl,hinv⟩
  .rw [hw] at h3
   have h3:=of_decide_eq_false h3
   exact join fun ⟨_,_,q⟩=>by have:=hr.1 q; omega
  .exact join fun ⟨_,q,_⟩=>by rw [q] at h2; cases h2
  .rw [e0] at h1
   exact join fun ⟨q,_,_⟩=>by have:=of_decide_eq_false h1; exact this q
 .have hge:i=s.size:=by have:=of_decide_eq_false hge; omega
  subst hge
  have:(bytesI s).drop s.size=[]:=List.drop_eq_nil_of_le (by rw [bytes_len]; exact Nat.le_refl _)
  rw [this,letL] at hinv
  exact hend _ hinv
theorem c71 {s:ByteArray} {H:KH} {Q:PQ} (hq:∀ n,H n=none->Q (.func (.func 79) #[] #[.pointer (some ⟨n,0,none⟩)]) (H.new n (mkEnt [.string s] 0))):Does (env Try.prog) 71 [.string s] H Q:=fn71 ok fun n hn=>hq n hn
theorem c67s {s:ByteArray} {H:KH} {Q:PQ} (hs:s.size<=100) (hn:readR s=none->∀ H',Le H H'->Q (.tuple #[.slice none 0 0,.bool false]) H') (hq:∀ l,readR s=some l->∀ a c H',Le H H'->ItR H' l a->SlOk H' 2 a l.length c->Q (.tuple #[.slice a l.length c,.bool true]) H'):Does (env Try.prog) 54 [.string s] H Q:=by
 refine fn54 ok fun n1 h1 n2 h2 n3 h3=>c71 ok fun ns hns=>⟨_,[.pointer (some ⟨ns,0,none⟩)],rfl,⟨(by kernel_rfl)⟩,fun n8 L9 h8 hR=>?_⟩
 -- names
 have ne21:n2≠n1:=fun x=>by subst x; simp [KH.new] at h2
 have ne31:n3≠n1:=fun x=>by subst x; simp [KH.new,ne21.symm] at h3
 have ne32:n3≠n2:=fun x=>by subst x; simp [KH.new] at h3
 have nes1:ns≠n1:=fun x=>by subst x; simp [KH.new,ne31.symm,ne21.symm] at hns
 have nes2:ns≠n2:=fun x=>by subst x; simp [KH.new,ne32.symm] at hns
 have nes3:ns≠n3:=fun x=>by subst x; simp [KH.new] at hns
 have ne81:n8≠n1:=fun x=>by subst x; simp [KH.new,nes1.symm,ne31.symm,ne21.symm] at h8
 have ne82:n8≠n2:=fun x=>by subst x; simp [KH.new,nes2.symm,ne32.symm] at h8
 have ne83:n8≠n3:=fun x=>by subst x; simp [KH.new,nes3.symm] at h8
 have ne8s:n8≠ns:=fun x=>by subst x; simp [KH.new] at h8
 have hH2:H n2=none:=by simpa [KH.new,ne21] using h2
 have hH3:H n3=none:=by simpa [KH.new,ne31,ne32] using h3
 have hHs:H ns=none:=by simpa [KH.new,nes1,nes2,nes3] using hns
 have hH8:H n8=none:=by simpa [KH.new,ne81,ne82,ne83,ne8s] using h8
 generalize hE:(mkEnt [.slice none 0 0,.slice none 0 0,.bool false,.int .i64 0,.bool false,.slice none 0 0,.int .i64 0] 0:Ent)=E3
 generalize hEs:(mkEnt [.string s] 0:Ent)=Es
 let F:List (Nat × Ent):=[(n1,mkEnt [.slice none 0 0] 0),(n2,mkEnt [.bool false] 0)]
 let Inv:List (Int × Bool)->KH->Prop:=fun r H1=>∃ X W σ k,H1 n8=some (lpE L9 0 none)/\Fu X W n3 σ/\Le (H.new ns Es) X/\frL W F/\Le (addL W F) (H1.del n8)/\Wf k σ/\k+r.length<=200/\(foldT rd0 (letL (bytesI s) false)=foldT σ r)
 have hF:∀ W,frL W F↔(W.new n2 (mkEnt [.bool false] 0)) n1=none/\W n2=none/\True:=fun W=>Iff.rfl
 have key:∀ {r:List (Int × Bool)} {H1:KH},Inv r H1->∀ k e,H1.del n8 k=some e->H1 k=some e:=fun _ k e q=>by
  simp only [KH.del] at q
  split at q
  .cases q
  .exact q
 have lits:∀ {cs:List Value} {K:KH} {n:Nat},K n=some (mkEnt cs 0)->ld K ⟨n,0,none⟩ cs:=fun {cs K n} hk=>⟨rfl,_,hk,rd_some rfl fun j v hv=>by rw [Nat.zero_add]; simp only [mkEnt,tget_wr_nil]; exact hv⟩
 have inF:∀ {W K:KH},frL W F->Le (addL W F) K->K n1=some (mkEnt [.slice none 0 0] 0)/\K n2=some (mkEnt [.bool false] 0):=fun {W K} hf hl=>⟨hl _ _ (if_pos rfl),hl _ _ (by simp [addL,F,KH.new,ne21])⟩
 -- what a store into the two cells leaves
 have puts:∀ {W K:KH} {v1 v2:Value},frL W F->Le (addL W F) K->Le W ((K.put ⟨n1,0,none⟩ [v1]).put ⟨n2,0,none⟩ [v2])/\((K.put ⟨n1,0,none⟩ [v1]) n2=some (mkEnt [.bool false] 0))/\ld ((K.put ⟨n1,0,none⟩ [v1]).put ⟨n2,0,none⟩ [v2]) ⟨n1,0,none⟩ [v1]/\ld ((K.put ⟨n1,0,none⟩ [v1]).put ⟨n2,0,none⟩ [v2]) ⟨n2,0,none⟩ [v2]:=by
  intro W K v1 v2 hf hl
  obtain ⟨k1,k2⟩:=inF hf hl
  obtain ⟨f1,f2,_⟩:=(hF W).1 hf
  have f1:W n1=none:=by simpa [KH.new,ne21.symm] using f1
  have p2:(K.put ⟨n1,0,none⟩ [v1]) n2=some (mkEnt [.bool false] 0):=put_ne ne21 k2
  refine ⟨fun k e q=>?_,p2,?_,?_⟩
  .refine put_ne (fun x=>by subst x; rw [f2] at q; cases q) (put_ne (fun x=>by subst x; rw [f1] at q; cases q) ?_)
   exact hl _ _ (addL_le hf _ _ q)
  .refine ⟨rfl,⟨wr (mkEnt [.slice none 0 0] 0).cells 0 [v1],(mkEnt [.slice none 0 0] 0).len,(mkEnt [.slice none 0 0] 0).unk,none⟩,put_ne ne21.symm (by simp only [KH.put,if_true,k1,Option.map_some]),?_⟩
   exact rd_some rfl fun j v hv=>by
    match j,hv with
    | 0,hv=>rw [tget_wr]; simpa using hv
    | j+1,hv=>simp at hv
  .refine ⟨rfl,⟨wr (mkEnt [.bool false] 0).cells 0 [v2],(mkEnt [.bool false] 0).len,(mkEnt [.bool false] 0).unk,none⟩,by simp only [KH.put,if_true]; rw [show (if n2=n1 then Option.map _ (K n2) else K n2)=some (mkEnt [.bool false] 0) from p2]; rfl,?_⟩
   exact rd_some rfl fun j v hv=>by
    match j,hv with
    | 0,hv=>rw [tget_wr]; simpa using hv
    | j+1,hv=>simp at hv
 have leH:∀ {X:KH},Le (H.new ns Es) X->Le H X:=fun h=>(Le.new hHs).trans h
 refine c79 ok (s:=s) Inv (fun r H1 hi=>?_) (fun c e r H1 hi hc=>?_) (fun H1 hi=>?_) (by omega) ?_
 .obtain ⟨X,W,σ,k,g1,g2,g3,g4,g5,g6,g7,g8⟩:=hi
  have:=key ⟨X,W,σ,k,g1,g2,g3,g4,g5,g6,g7,g8⟩ ns Es (g5 _ _ (addL_le g4 _ _ (g2.le _ _ (g3 _ _ (if_pos rfl)))))
  rw [<- hEs] at this
  exact lits this
 .have hi':=hi
  obtain ⟨X,W,σ,k,g1,g2,g3,g4,g5,g6,g7,g8⟩:=hi
  simp only [List.length_cons] at g7
  rw [foldT] at g8
  refine hR c e H1 _ g1 (Does.keep g4 g5 (c72 ok g2 g6 (by omega) hc (fun ht W' hW' hf H15 hl=>⟨false,rfl,fun _=>?_,fun h=>(by cases h)⟩) fun τ ht X' W' hX hFu hf H15 hl=>⟨true,rfl,fun h=>(by cases h),fun _ h15=>.inl ⟨rfl,?_⟩⟩))
  .obtain ⟨k1,k2⟩:=inF hf hl
   obtain ⟨q1,q2,q3,q4⟩:=puts (v1:=.slice none 0 0) (v2:=.bool false) hf hl
   refine ⟨stOk (lits k1) rfl,⟨_,k1,rfl⟩,stOk (lits q2) rfl,⟨_,q2,rfl⟩,fun h15=>.inr ⟨rfl,.inr (.inl ⟨if_pos rfl,none,0,0,?_,false,?_,?_⟩)⟩⟩
   .exact Le.ld (fun k e q=>by simp only [KH.del,KH.new] at q ⊢; rw [if_neg (fun x=>by subst x; rw [h15] at q; cases q),if_neg (fun x=>by subst x; rw [h15] at q; cases q)]; exact q) q3
   .exact Le.ld (fun k e q=>by simp only [KH.del,KH.new] at q ⊢; rw [if_neg (fun x=>by subst x; rw [h15] at q; cases q),if_neg (fun x=>by subst x; rw [h15] at q; cases q)]; exact q) q4
   .refine hn ?_ _ fun k e q=>?_
    .unfold readR; rw [g8,ht]
    .have:=q1 _ _ (hW' _ _ (leH g3 _ _ q))
     simp only [KH.del,KH.new]
     rw [if_neg (fun x=>by subst x; rw [hH8] at q; cases q),if_neg (fun x=>by subst x; rw [hH8] at q; cases q)]
     exact this
  .refine ⟨X',W',τ,k+1,if_pos rfl,hFu,g3.trans hX,hf,fun k e q=>?_,take_wf g6 ht,by omega,?_⟩
   .have:=hl k e q
    simp only [KH.del,KH.new]
    rw [if_neg (fun x=>by subst x; rw [h15] at this; cases this),if_neg (fun x=>by subst x; rw [h15] at this; cases this)]
    exact this
   .rw [g8,ht]
 .obtain ⟨X,W,σ,k,g1,g2,g3,g4,g5,g6,g7,g8⟩:=hi
  have hk:σ.items.length<=900:=by have:=g6.1; simp only [List.length_nil] at g7; omega
  refine .inl ⟨g1,Does.keep g4 g5 (c73 ok g2 hk (fun ht hf H2 hl=>⟨false,rfl,fun _=>?_,fun h=>(by cases h)⟩) fun τ ht W' hC hf H2 hl=>⟨true,rfl,fun h=>(by cases h),fun _=>?_⟩)⟩
  .obtain ⟨k1,k2⟩:=inF hf hl
   obtain ⟨q1,q2,q3,q4⟩:=puts (v1:=.slice none 0 0) (v2:=.bool false) hf hl
   refine ⟨stOk (lits k1) rfl,⟨_,k1,rfl⟩,stOk (lits q2) rfl,⟨_,q2,rfl⟩,none,0,0,q3,false,q4,hn ?_ _ ((leH g3).trans (g2.le.trans q1))⟩
   unfold readR; rw [g8,foldT]; simp only [ht]
  .obtain ⟨k1,k2⟩:=inF hf hl
   obtain ⟨ai,ci,ao,co,csI,exo,hC⟩:=hC
   obtain ⟨q1,q2,q3,q4⟩:=puts (v1:=.slice ai τ.items.length ci) (v2:=.bool true) hf hl
   have hle:Le W' H2:=(addL_le hf).trans hl
   refine ⟨rfl,ai,_,ci,hle.ld hC.c0,stOk (lits k1) rfl,⟨_,k1,rfl⟩,stOk (lits q2) rfl,⟨_,q2,rfl⟩,ai,_,ci,q3,true,q4,hq τ.items ?_ ai ci _ ((leH g3).trans (hC.pt.le.trans q1)) ⟨csI,?_,?_⟩ ((hC.items.slok (by decide)).mono q1)⟩
   .unfold readR; rw [g8,foldT]; simp only [ht]
   .exact q1.kold hC.items.row
   .exact hC.itc.mono (hC.pt.le.trans q1)
 .have hX3:(H.new ns Es) n3=none:=by simp only [KH.new]; rw [if_neg nes3.symm]; exact hH3
  refine ⟨H.new ns Es,(H.new ns Es).new n3 E3,rd0,0,if_pos rfl,Fu.of_none rfl ⟨none,0,none,0,[],[],⟨Le.new hX3,hX3,E3,if_pos rfl,by rw [<- hE]; rfl,?_⟩,fun b q=>(by cases q),fun b q=>(by cases q),.nil,rfl,.nil,⟨by decide,by decide,fun g hg=>(by cases hg)⟩⟩,Le.refl _,⟨?_,?_,trivial⟩,fun k e q=>?_,⟨by decide,fun l pl q=>(by cases q)⟩,?_,rfl⟩
  .rw [<- hE]
   exact rd_some rfl fun j v hv=>by rw [Nat.zero_add]; simp only [mkEnt,tget_wr_nil]; exact hv
  .show (((H.new ns Es).new n3 E3).new n2 _) n1=none
   simp only [KH.new]
   rw [if_neg ne21.symm,if_neg ne31.symm,if_neg nes1.symm]
   exact h1
  .show ((H.new ns Es).new n3 E3) n2=none
   simp only [KH.new]
   rw [if_neg ne32.symm,if_neg nes2.symm]
   exact hH2
  .have q:(((((H.new ns Es).new n3 E3).new n2 (mkEnt [.bool false] 0)).new n1 (mkEnt [.slice none 0 0] 0)) k)=some e:=q
   simp only [KH.del,KH.new] at q ⊢
   have hk8:k≠n8:=fun x=>by
    subst x
    rw [if_neg ne81,if_neg ne82,if_neg ne83,if_neg ne8s,hH8] at q
    cases q
   rw [if_neg hk8,if_neg hk8]
   by_cases a1:k=n1
   .subst a1
    rw [if_pos rfl] at q
    rw [if_neg nes1.symm,if_neg ne31.symm,if_neg ne21.symm,if_pos rfl]
    exact q
   .rw [if_neg a1] at q ⊢
    by_cases a2:k=n2
    .subst a2
     rw [if_pos rfl] at q
     rw [if_neg nes2.symm,if_neg ne32.symm,if_pos rfl]
     exact q
    .rw [if_neg a2] at q ⊢
     by_cases a3:k=n3
     .subst a3
      rw [if_pos rfl] at q
      rw [if_neg nes3.symm,if_pos rfl]
      exact q
     .rw [if_neg a3] at q ⊢
      exact q
  .have:=let_len (bytesI s) false
   rw [bytes_len] at this
   omega
theorem c51s {s:ByteArray} {H:KH} {Q:PQ} (hn:parseR s=none->∀ H',Le H H'->Q (.tuple #[.slice none 0 0,.bool false]) H') (hq:∀ l,parseR s=some l->∀ a c H',Le H H'->ItR H' l a->SlOk H' 2 a l.length c->Q (.tuple #[.slice a l.length c,.bool true]) H'):Does (env Try.prog) 30 [.string s] H Q:=by
 refine fn30 ok ⟨fun h1=>?_,fun h1=>⟨fun h2=>?_,fun h2=>?_⟩⟩
 .have h1:=of_decide_eq_true h1
  exact hn (if_pos (.inl (by omega))) H (Le.refl _)
 .have h2:=of_decide_eq_true h2
  exact hn (if_pos (.inr (by omega))) H (Le.refl _)
 .have h1:=of_decide_eq_false h1
  have h2:=of_decide_eq_false h2
  have e:parseR s=readR s:=if_neg (by omega)
  rw [e] at hn hq
  exact c67s ok (by omega) (fun q H' hl=>⟨_,_,_,_,rfl,hn q H' hl⟩) fun l q a c H' hl hi hso=>⟨_,_,_,_,rfl,hq l q a c H' hl hi hso⟩
theorem c30 {s:ByteArray} {H:KH} {Q:PQ} (hn:parseR s=none->∀ H',Le H H'->Q (.tuple #[.slice none 0 0,.bool false]) H') (hq:∀ l,parseR s=some l->∀ a c H',Le H H'->ItR H' l a->Q (.tuple #[.slice a l.length c,.bool true]) H'):Does (env Try.prog) 30 [.string s] H Q:=c51s ok hn fun l q a c H' hl hi _=>hq l q a c H' hl hi
end
end Va
end Go.Proofs.Ytlgpleiobieniaa
namespace Go.Ew
open Go.Ev Go.Deep
theorem bytes_app (a b:ByteArray):bytesI (a++b)=bytesI a++bytesI b:=by
 unfold bytesI
 rw [ByteArray.data_append,Array.toList_append,List.map_append]
def cntI:List It->Int
 | []=>0
 | (op,l) :: r=>(if op=1 then 1 else if op=2\/op=3 then -1 else 0)+cntI r
theorem cnt_app:∀ (a b:List It),cntI (a++b)=cntI a+cntI b
 | [],b=>by simp [cntI]
 | (op,l) :: r,b=>by simp only [List.cons_append,cntI,cnt_app r b]; omega
def okRg (r:Rg):Prop:=r.1<=r.2/\32<=r.1/\r.2<=126
def okIt (i:It):Prop:=(i.1=1/\i.2≠[]/\∀ r∈i.2,okRg r)\/((i.1=2\/i.1=3\/i.1=4\/i.1=5\/i.1=6)/\i.2=[])
structure Fine (l:List It):Prop where
 each:∀ i∈l,okIt i
 pre:∀ k,0<k->k<=l.length->1<=cntI (l.take k)
theorem Fine.app {l:List It} {i:It} (h:Fine l) (hi:okIt i) (hc:1<=cntI (l++[i])):Fine (l++[i]):=by
 refine ⟨fun j hj=>?_,fun k h1 h2=>?_⟩
 .rcases List.mem_append.1 hj with hj | hj
  .exact h.each j hj
  .have:j=i:=by simpa using hj
   subst this; exact hi
 .simp only [List.length_append,List.length_cons,List.length_nil] at h2
  by_cases hk:k<=l.length
  .rw [List.take_append_of_le_length hk]
   exact h.pre k h1 hk
  .have:k=(l++[i]).length:=by simp; omega
   rw [this,List.take_length]
   exact hc
def b1 (b:Bool):Int:=if b=true then 1 else 0
def outC:List (Bool × Int)->Int
 | []=>0
 | g :: r=>g.2+b1 g.1+outC r
theorem outC_app:∀ (a b:List (Bool × Int)),outC (a++b)=outC a+outC b
 | [],b=>by simp [outC]
 | g :: r,b=>by simp only [List.cons_append,outC,outC_app r b]; omega
theorem b1_nn (b:Bool):0<=b1 b/\b1 b<=1:=by cases b<;>decide
structure Iv (σ:RdS):Prop where
 fine:Fine σ.items
 cnt:cntI σ.items=σ.atoms+b1 σ.parted+outC σ.outer
 at_:0<=σ.atoms/\σ.atoms<=2
 out:∀ g∈σ.outer,0<=g.2/\g.2<=1
 cls:∀ l pl,σ.cls=some (l,pl)->∀ r∈l,okRg r
theorem outC_nn:∀ {l:List (Bool × Int)},(∀ g∈l,0<=g.2/\g.2<=1)->0<=outC l
 | [],_=>by simp [outC]
 | g :: r,h=>by
   have h1:=h g (by simp)
   have h2:=outC_nn (l:=r) fun x hx=>h x (by simp [hx])
   have:=b1_nn g.1
   simp only [outC]; omega
theorem Iv.put {σ:RdS} (h:Iv σ) {op:Int} (ho:op=4\/op=5\/op=6) (ha:σ.atoms≠0):Iv (putR σ op):=by
 have hn:=outC_nn h.out
 have hb:=b1_nn σ.parted
 have hc:cntI (σ.items++[(op,[])])=cntI σ.items:=by
  rw [cnt_app]; simp only [cntI]; rw [if_neg (by omega),if_neg (by omega)]; omega
 refine ⟨h.fine.app (.inr ⟨by omega,rfl⟩) ?_,?_,h.at_,h.out,h.cls⟩
 .rw [hc,h.cnt]; have:=h.at_; omega
 .show cntI (σ.items++[(op,[])])=_
  rw [hc]; exact h.cnt
theorem Iv.join {σ:RdS} (h:Iv σ):Iv (joinR σ):=by
 unfold joinR
 split
 .rename_i h2
  have hn:=outC_nn h.out
  have hb:=b1_nn σ.parted
  have hc:cntI (σ.items++[(2,[])])=cntI σ.items-1:=by rw [cnt_app]; simp only [cntI]; rfl
  refine ⟨h.fine.app (.inr ⟨.inl rfl,rfl⟩) ?_,?_,(show (0:Int)<=1/\(1:Int)<=2 by decide),h.out,h.cls⟩
  .rw [hc,h.cnt]; omega
  .show cntI (σ.items++[(2,[])])=1+b1 σ.parted+outC σ.outer
   rw [hc,h.cnt]; omega
 .exact h
theorem Iv.add {σ:RdS} (h:Iv σ) {l:List Rg} (hl:l≠[]) (hr:∀ r∈l,okRg r):Iv (addClassR σ l):=by
 have hj:=h.join
 have hja:=join_atoms h.at_
 have hn:=outC_nn hj.out
 have hb:=b1_nn (joinR σ).parted
 have hc:cntI ((joinR σ).items++[(1,l)])=cntI (joinR σ).items+1:=by rw [cnt_app]; simp only [cntI]; rfl
 refine ⟨hj.fine.app (.inl ⟨rfl,hl,hr⟩) ?_,?_,?_,hj.out,hj.cls⟩
 .rw [hc,hj.cnt]; omega
 .show cntI ((joinR σ).items++[(1,l)])=((joinR σ).atoms+1)+b1 (joinR σ).parted+outC (joinR σ).outer
  rw [hc,hj.cnt]; omega
 .show 0<=(joinR σ).atoms+1/\(joinR σ).atoms+1<=2
  omega
theorem Iv.end_ {σ τ:RdS} (h:Iv σ) (he:endR σ=some τ):Iv τ/\τ.parted=true/\τ.atoms=0/\τ.outer=σ.outer:=by
 have ho:=end_outer he
 unfold endR at he
 split at he
 .cases he
 .rename_i h0
  cases he
  have hj:=h.join
  have hja:=join_atoms h.at_
  have hjz:=join_zero h0
  have hn:=outC_nn hj.out
  refine ⟨?_,rfl,rfl,ho⟩
  by_cases hp:(joinR σ).parted=true
  .have hc:cntI ((joinR σ).items++[(3,[])])=cntI (joinR σ).items-1:=by rw [cnt_app]; simp only [cntI]; rfl
   have hcn:=hj.cnt
   rw [hp] at hcn
   have e1:b1 true=1:=rfl
   rw [e1] at hcn
   simp only [if_pos hp]
   refine ⟨hj.fine.app (.inr ⟨.inr (.inl rfl),rfl⟩) ?_,?_,(show (0:Int)<=0/\(0:Int)<=2 by decide),hj.out,hj.cls⟩
   .rw [hc]; omega
   .show cntI ((joinR σ).items++[(3,[])])=0+b1 true+outC (joinR σ).outer
    rw [hc,e1]; omega
  .have hcn:=hj.cnt
   have e0:b1 (joinR σ).parted=0:=by unfold b1; rw [if_neg hp]
   rw [e0] at hcn
   simp only [if_neg hp]
   refine ⟨hj.fine,?_,(show (0:Int)<=0/\(0:Int)<=2 by decide),hj.out,hj.cls⟩
   show cntI (joinR σ).items=0+b1 true+outC (joinR σ).outer
   have e1:b1 true=1:=rfl
   rw [e1]; omega
theorem stands_rg {c:Int} {e:Bool} {L:List Int} (h:standsB c e L=true):32<=c/\c<=126:=by
 unfold standsB at h
 simp only [Bool.and_eq_true,decide_eq_true_eq] at h
 exact ⟨h.1,h.2.1⟩
theorem Iv.mark {σ τ:RdS} {c:Int} (h:Iv σ) (hcl:σ.cls=none) (ht:markR σ c=some τ):Iv τ:=by
 unfold markR at ht
 split at ht
 .unfold openR at ht
  split at ht
  .cases ht
   have hj:=h.join
   have hja:=join_atoms h.at_
   refine ⟨hj.fine,?_,(show (0:Int)<=0/\(0:Int)<=2 by decide),fun g hg=>?_,hj.cls⟩
   .show cntI (joinR σ).items=0+b1 false+outC ((joinR σ).outer++[((joinR σ).parted,(joinR σ).atoms)])
    rw [outC_app,hj.cnt]
    simp only [outC]
    have e0:b1 false=0:=rfl
    rw [e0]; omega
   .rcases List.mem_append.1 hg with hg | hg
    .exact hj.out g hg
    .have:g=((joinR σ).parted,(joinR σ).atoms):=by simpa using hg
     subst this; exact hja
  .cases ht
 split at ht
 .unfold closeR at ht
  split at ht
  .cases ht
  .rename_i g hg
   split at ht
   .cases ht
   .rename_i τ' he
    cases ht
    obtain ⟨i1,i2,i3,i4⟩:=h.end_ he
    have hne:σ.outer≠[]:=fun e=>by rw [e] at hg; cases hg
    have hsp:σ.outer=σ.outer.dropLast++[g]:=by
     have:=List.dropLast_concat_getLast hne
     rw [List.getLast?_eq_some_getLast hne] at hg
     cases hg
     exact this.symm
    have hgm:=h.out g (by rw [hsp]; simp)
    refine ⟨i1.fine,?_,?_,fun x hx=>h.out x (by rw [hsp]; simp [hx]),i1.cls⟩
    .show cntI τ'.items=(g.2+1)+b1 g.1+outC σ.outer.dropLast
     have:=i1.cnt
     rw [i2,i3,i4,hsp,outC_app] at this
     simp only [outC] at this
     have e1:b1 true=1:=rfl
     rw [e1] at this
     omega
    .show 0<=g.2+1/\g.2+1<=2
     omega
 split at ht
 .unfold openC at ht
  split at ht
  .cases ht
   exact ⟨h.fine,h.cnt,h.at_,h.out,fun l pl q=>by cases q; simp⟩
  .cases ht
 split at ht
 .cases ht
  exact h.add (by simp) (by simp [okRg])
 split at ht
 .exact (h.end_ ht).1
 have rep:∀ op,(op=4\/op=5\/op=6)->repeatR σ op=some τ->Iv τ:=fun op ho ht=>by
  unfold repeatR at ht
  split at ht
  .cases ht
  .rename_i h0
   cases ht
   exact h.put ho h0
 split at ht
 .exact rep _ (by decide) ht
 split at ht
 .exact rep _ (by decide) ht
 split at ht
 .exact rep _ (by decide) ht
 .cases ht
theorem Iv.take {σ τ:RdS} {c:Int} {e:Bool} (h:Iv σ) (ht:takeR σ c e=some τ):Iv τ:=by
 unfold takeR at ht
 split at ht
 .rename_i l pl hc
  have hr:=h.cls l pl hc
  unfold inClassR at ht
  split at ht
  .rename_i hst
   have hcr:=stands_rg hst
   split at ht
   .rename_i x hx
    cases ht
    refine ⟨h.fine,h.cnt,h.at_,h.out,fun m pl' q r hm=>?_⟩
    have q:x=(m,pl'):=Option.some.inj q
    subst q
    unfold addC at hx
    split at hx
    .cases hx
     rcases List.mem_append.1 hm with hm | hm
     .exact hr r hm
     .have:r=(c,c):=by simpa using hm
      subst this; exact ⟨Int.le_refl _,hcr.1,hcr.2⟩
    .split at hx
     .cases hx
     .rename_i r' hr'
      split at hx
      .cases hx
      .rename_i hlt
       cases hx
       have hl2:=hr r' (List.mem_of_getLast? hr')
       rcases List.mem_append.1 hm with hm | hm
       .exact hr r ((List.dropLast_subset l) hm)
       .have:r=(r'.1,c):=by simpa using hm
        subst this
        exact ⟨by show r'.1<=c; omega,hl2.2.1,hcr.2⟩
   .cases ht
  .split at ht
   .split at ht
    .cases ht
     exact ⟨h.fine,h.cnt,h.at_,h.out,fun m pl' q=>by cases q; exact hr⟩
    .cases ht
   .split at ht
    .split at ht
     .rename_i hw
      cases ht
      have hne:l≠[]:=fun q=>by subst q; simp [wholeC] at hw
      have:=h.add hne hr
      exact ⟨this.fine,this.cnt,this.at_,this.out,fun m pl' q=>by cases q⟩
     .cases ht
    .cases ht
 .rename_i hc
  split at ht
  .rename_i hst
   have hcr:=stands_rg hst
   cases ht
   refine h.add (by simp) fun r hr=>?_
   have:r=(c,c):=by simpa using hr
   subst this; exact ⟨Int.le_refl _,hcr.1,hcr.2⟩
  .exact h.mark hc ht
theorem Iv.fold:∀ {l:List (Int × Bool)} {σ τ:RdS},Iv σ->foldT σ l=some τ->Iv τ
 | [],σ,τ,h,hf=>by cases hf; exact h
 | (c,e) :: l,σ,τ,h,hf=>by
  rw [foldT] at hf
  cases ht:takeR σ c e with
  | none=>rw [ht] at hf; cases hf
  | some ρ=>rw [ht] at hf; exact Iv.fold (h.take ht) hf
theorem parse_fine {s:ByteArray} {l:List It} (h:parseR s=some l):Fine l/\cntI l=1:=by
 unfold parseR at h
 split at h
 .cases h
 .unfold readR at h
  split at h
  .cases h
  .rename_i σ hf
   split at h
   .cases h
   .rename_i τ he
    cases h
    have f0:Fine rd0.items:=⟨fun i hi=>(by cases hi),fun k h1 h2=>by
     have:k<=0:=h2
     omega⟩
    have h0:Iv rd0:=⟨f0,rfl,(show (0:Int)<=0/\(0:Int)<=2 by decide),fun g hg=>(by cases hg),fun l pl q=>(by cases q)⟩
    have h1:=h0.fold hf
    unfold finR at he
    split at he
    .cases he
    .split at he
     .rename_i hout
      obtain ⟨i1,i2,i3,i4⟩:=h1.end_ he
      have hnil:σ.outer=[]:=List.eq_nil_of_length_eq_zero hout
      have:=i1.cnt
      rw [i2,i3,i4,hnil] at this
      exact ⟨i1.fine,this⟩
     .cases he
def pre (P:List It) (σ:RdS):RdS:={ σ with items:=P++σ.items }
def Go1 (ls:List (Int × Bool)) (b:Bool) (a:Int):Prop:=∃ I b' a',(a'=1\/a'=2)/\foldT ⟨[],[],b,a,none⟩ ls=some ⟨I,[],b',a',none⟩/\∀ g,foldT ⟨[],[g],b,a,none⟩ ls=some ⟨I,[g],b',a',none⟩
def fins (I:List It) (b:Bool) (a:Int):List It:=(if a=2 then I++[(2,[])] else I)++(if b=true then [(3,[])] else [])
theorem end_is {I:List It} {O:List (Bool × Int)} {b:Bool} {a:Int} (h:a=1\/a=2):endR ⟨I,O,b,a,none⟩=some ⟨fins I b a,O,true,0,none⟩:=by
 rcases h with rfl | rfl<;>cases b<;>simp [endR,joinR,putR,fins]
theorem litAt {H:KH} {n j:Nat} {cs:List Value} {v:Value} (h:H n=some (mkEnt cs 0)) (hj:cs[j]? = some v):ld H ⟨n,0+j*1,none⟩ [v]:=by
 refine ⟨rfl,_,h,rd_some rfl fun i w hw=>?_⟩
 match i,hw with
 | 0,hw =>
   have:v=w:=by simpa using hw
   subst this
   simp only [mkEnt,tget_wr_nil]
   simpa using hj
 | i+1,hw=>simp at hw
theorem size_app (a b:ByteArray):(a++b).size=a.size+b.size:=ByteArray.size_append
theorem it_get {X:KH}:∀ {l:List It} {cs:List Value} {k:Nat} {op:Int} {rg:List Rg},ItC X l cs->l[k]? = some (op,rg)->∃ a c,cs[k*2]? = some (.int .i64 op)/\cs[k*2+1]? = some (.slice a rg.length c)/\kold X 2 a rg.length=some (rgC rg)
 | [],cs,k,op,rg,h,hk=>by simp at hk
 | (op',l') :: r,cs,0,op,rg,⟨a,c,ds,h1,h2,h3⟩,hk=>by
  have hk:(op',l')=(op,rg):=by simpa using hk
  cases hk
  subst h1
  exact ⟨a,c,rfl,rfl,h2⟩
 | (op',l') :: r,cs,k+1,op,rg,⟨a,c,ds,h1,h2,h3⟩,hk=>by
  obtain ⟨a',c',g1,g2,g3⟩:=it_get (k:=k) h3 (by simpa using hk)
  subst h1
  refine ⟨a',c',?_,?_,g3⟩
  .rw [show (k+1)*2=k*2+2 by omega]; exact g1
  .rw [show (k+1)*2+1=k*2+1+2 by omega]; exact g2
theorem rg_get:∀ {l:List Rg} {j:Nat} {r:Rg},l[j]? = some r->(rgC l)[j*2]? = some (.int .u8 r.1)/\(rgC l)[j*2+1]? = some (.int .u8 r.2)
 | [],j,r,h=>by simp at h
 | x :: l,0,r,h=>by
   have:x=r:=by simpa using h
   subst this; exact ⟨rfl,rfl⟩
 | x :: l,j+1,r,h=>by
   obtain ⟨g1,g2⟩:=rg_get (j:=j) (l:=l) (by simpa using h)
   refine ⟨?_,?_⟩
   .rw [show (j+1)*2=j*2+2 by omega]; exact g1
   .rw [show (j+1)*2+1=j*2+1+2 by omega]; exact g2
def Wl (B:Nat) (σ:RdS):Prop:=∀ i∈σ.items,i.2.length<=B
theorem wl_app {B:Nat} {l:List It} {i:It} (h:∀ i∈l,i.2.length<=B) (hi:i.2.length<=B):∀ j∈l++[i],j.2.length<=B:=fun j hj=>by
 rcases List.mem_append.1 hj with hj | hj
 .exact h j hj
 .have:j=i:=by simpa using hj
  subst this; exact hi
theorem wl_join {B:Nat} {σ:RdS} (h:Wl B σ):Wl B (joinR σ):=by
 unfold joinR
 split
 .exact wl_app h (by simp)
 .exact h
theorem wl_add {B:Nat} {σ:RdS} {l:List Rg} (h:Wl B σ) (hl:l.length<=B):Wl B (addClassR σ l):=wl_app (wl_join h) hl
theorem wl_end {B:Nat} {σ τ:RdS} (h:Wl B σ) (he:endR σ=some τ):Wl B τ:=by
 unfold endR at he
 split at he
 .cases he
 .cases he
  show ∀ i∈(if (joinR σ).parted=true then putR (joinR σ) 3 else joinR σ).items,_
  split
  .exact wl_app (wl_join h) (by simp)
  .exact wl_join h
theorem wl_take {B n:Nat} {σ τ:RdS} {c:Int} {e:Bool} (h:Wl B σ) (hw:Wf n σ) (hn:n<=B) (hB:1<=B) (ht:takeR σ c e=some τ):Wl B τ:=by
 unfold takeR at ht
 split at ht
 .rename_i l pl hc
  have hl:=(hw.2 l pl hc).1
  unfold inClassR at ht
  split at ht
  .split at ht
   .cases ht; exact h
   .cases ht
  .split at ht
   .split at ht
    .cases ht; exact h
    .cases ht
   .split at ht
    .split at ht
     .cases ht; exact wl_add h (by omega)
     .cases ht
    .cases ht
 .split at ht
  .cases ht; exact wl_add h (by simpa using hB)
  .unfold markR at ht
   split at ht
   .unfold openR at ht
    split at ht
    .cases ht; exact wl_join h
    .cases ht
   split at ht
   .unfold closeR at ht
    split at ht
    .cases ht
    .split at ht
     .cases ht
     .rename_i he
      cases ht
      have:=wl_end h he
      exact this
   split at ht
   .unfold openC at ht
    split at ht
    .cases ht; exact h
    .cases ht
   split at ht
   .cases ht; exact wl_add h (by simpa using hB)
   split at ht
   .exact wl_end h ht
   have rep:∀ op,repeatR σ op=some τ->Wl B τ:=fun op ht=>by
    unfold repeatR at ht
    split at ht
    .cases ht
    .cases ht; exact wl_app h (by simp)
   split at ht
   .exact rep _ ht
   split at ht
   .exact rep _ ht
   split at ht
   .exact rep _ ht
   .cases ht
theorem wl_fold {B:Nat} (hB:1<=B):∀ {l:List (Int × Bool)} {n:Nat} {σ τ:RdS},Wl B σ->Wf n σ->n+l.length<=B->foldT σ l=some τ->Wl B τ/\Wf (n+l.length) τ
 | [],n,σ,τ,h,hw,hn,hf=>by cases hf; exact ⟨h,hw⟩
 | (c,e) :: l,n,σ,τ,h,hw,hn,hf=>by
  rw [foldT] at hf
  simp only [List.length_cons] at hn ⊢
  cases ht:takeR σ c e with
  | none=>rw [ht] at hf; cases hf
  | some ρ =>
    rw [ht] at hf
    have:=wl_fold hB (wl_take h hw (by omega) hB ht) (take_wf hw ht) (by omega) hf
    rw [show n+(l.length+1)=n+1+l.length by omega]
    exact this
theorem parse_small {s:ByteArray} {l:List It} (h:parseR s=some l):l.length<=100/\∀ i∈l,i.2.length<=100000:=by
 unfold parseR at h
 split at h
 .cases h
 .rename_i hs
  unfold readR at h
  split at h
  .cases h
  .rename_i σ hf
   split at h
   .cases h
   .rename_i τ he
    cases h
    have hl:=let_len (bytesI s) false
    rw [bytes_len] at hl
    obtain ⟨h1,h2⟩:=wl_fold (B:=100) (n:=0) (by omega) (σ:=rd0) (fun i hi=>by cases hi) ⟨by decide,fun l pl q=>by cases q⟩ (by omega) hf
    have he2:endR σ=some τ:=by
     unfold finR at he
     split at he
     .cases he
     .split at he
      .exact he
      .cases he
    have h3:=end_len he2
    have h4:=h2.1
    refine ⟨by omega,fun i hi=>?_⟩
    have:=wl_end h1 he2 i hi
    omega
structure ItAt (H:KH) (a:OA) (k:Nat) (op:Int) (rg:List Rg) (b o:Nat) (ar:OA) (cr:Nat):Prop where
 eq:a=some ⟨b,o,none⟩
 c0:ld H ⟨b,o+k*2+0,none⟩ [.int .i64 op]
 c1:ld H ⟨b,o+k*2+1,none⟩ [.slice ar rg.length cr]
 row:kold H 2 ar rg.length=some (rgC rg)
structure P3 (X H:KH) (p:Nat) (s:ByteArray) (i:Nat) (b:Bool):Prop where
 le:Le X H
 xp:X p=none
 ex:∃ e,H p=some e/\wrB e=true/\rd e.cells 0 3=some [.string s,.int .i64 (i:Nat),.bool b]
section
variable {X H : KH} {p : Nat} {s : ByteArray} {i : Nat} {b : Bool}
end
def peekM (s:ByteArray) (i:Nat):Int:=if s.size<=i then 0 else byteAt s i
def specB (c:Int) (all:ByteArray):Bool:=decide (c∈bytesI all)
def oneM (s all:ByteArray) (i:Nat):Int × Nat × Bool :=
 if peekM s i=92 then (peekM s (i+1),i+2,!(specB (peekM s (i+1)) all))
 else (peekM s i,i+1,decide (peekM s i<32)||(decide (126<peekM s i)||specB (peekM s i) all))
theorem ItR.mono {H H':KH} {l:List It} {a:OA} (h:ItR H l a) (hl:Le H H'):ItR H' l a:=by
 obtain ⟨cs,h1,h2⟩:=h
 exact ⟨cs,hl.kold h1,h2.mono hl⟩
theorem Own.base {H0 H1 H:KH} {sz n c:Nat} {a:OA} {cs:List Value} (h:Own H0 H sz a n c cs) (hb:∀ b,blk a=some b->H1 b=none):Own H1 H sz a n c cs:=by
 cases h with
 | nil=>exact .nil
 | lit b _ _ h1 h2 h3 h4=>exact .lit b n cs h1 h2 h3 (hb b rfl)
 | grown b _ _ e h1 h2 h3 h4 h5 h6=>exact .grown b n cs e h1 h2 h3 h4 (hb b rfl) h6
theorem Own.out {H0 H:KH} {sz n c:Nat} {a:OA} {cs:List Value} (h:Own H0 H sz a n c cs) {b:Nat} (hb:blk a=some b):H0 b=none:=by
 cases h with
 | nil=>cases hb
 | lit b' _ _ h1 h2 h3 h4=>cases hb; exact h4
 | grown b' _ _ e h1 h2 h3 h4 h5 h6=>cases hb; exact h5
theorem Own.agree {H0 H H':KH} {sz n c:Nat} {a:OA} {cs:List Value} (h:Own H0 H sz a n c cs) (hk:∀ k e,blk a=some k->H k=some e->H' k=some e):Own H0 H' sz a n c cs:=by
 cases h with
 | nil=>exact .nil
 | lit b _ _ h1 h2 h3 h4=>exact .lit b n cs (hk b _ rfl h1) h2 h3 h4
 | grown b _ _ e h1 h2 h3 h4 h5 h6=>exact .grown b n cs e (hk b _ rfl h1) h2 h3 h4 h5 h6
section
variable {X H : KH} {p : Nat} {s : ByteArray} {i : Nat} {b : Bool}
end
structure OutR (X Z H:KH) (p:Nat) (s:ByteArray) (a:OA) (c:Nat) (I:List It) (i i':Nat) (b':Bool):Prop where
 le:Le X Z
 pt:P3 Z H p s i' b'
 own:∃ cs,Own Z H 2 a I.length c cs/\ItC Z I cs
 np:blk a≠some p
 lt:i<i'
 ln:I.length+2<=3*(i'-i)
 up:i'<=s.size+6
 gd:b'=false->i'<=s.size
def Jn (x:Int):List It:=if x=2 then [(2,[])] else []
def Dn (x:Int):Int:=if x=0 then 1 else 2
theorem add_is {P:List It} {O:List (Bool × Int)} {pt:Bool} {x:Int} (hx:x=0\/x=1\/x=2) (l:List Rg) (c:Option (List Rg × Int)):addClassR ⟨P,O,pt,x,c⟩ l=⟨P++Jn x++[(1,l)],O,pt,Dn x,c⟩:=by
 rcases hx with q | q | q<;>subst q
 .show RdS.mk _ _ _ _ _=_; simp [addClassR,joinR,Jn,Dn]
 .simp [addClassR,joinR,Jn,Dn]
 .simp [addClassR,joinR,Jn,Dn,putR]
theorem fins_app (P I:List It) (b:Bool) (x:Int):fins (P++I) b x=P++fins I b x:=by
 unfold fins
 split<;>simp
theorem close_is {I:List It} {O:List (Bool × Int)} {g:Bool × Int} {b:Bool} {x:Int} (h:x=1\/x=2):closeR ⟨I,O++[g],b,x,none⟩=some ⟨fins I b x,O,g.1,g.2+1,none⟩:=by
 unfold closeR
 have h1:(O++[g]).getLast? = some g:=by simp
 have h2:=end_is (I:=I) (O:=O++[g]) (b:=b) h
 simp only [h1,h2]
 simp
theorem open_is {P:List It} {O:List (Bool × Int)} {pt:Bool} {x:Int} (hx:x=0\/x=1\/x=2) (h:O.length<12):∃ y,y+1=Dn x/\openR ⟨P,O,pt,x,none⟩=some ⟨P++Jn x,O++[(pt,y)],false,0,none⟩:=by
 unfold openR
 rw [if_pos h]
 rcases hx with q | q | q<;>subst q
 .exact ⟨0,rfl,by simp [joinR,Jn]⟩
 .exact ⟨1,rfl,by simp [joinR,Jn]⟩
 .exact ⟨1,rfl,by simp [joinR,Jn,putR]⟩
end Go.Ew
namespace Go.Proofs.Ytlgpleiobieniaa
open Go.Ev Go.Ew
namespace Va
section
variable (ok : EnvOk (env Try.prog))
include ok
end
end Va
end Go.Proofs.Ytlgpleiobieniaa
