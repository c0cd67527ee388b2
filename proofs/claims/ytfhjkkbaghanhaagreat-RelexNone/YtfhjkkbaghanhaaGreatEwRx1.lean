import Derived.Test.YtfhjkkbaghanhaaGreatEwVc1
import Derived.Test.YtfhjkkbaghanhaaGreatEwCells
import Derived.Test.YtfhjkkbaghanhaaGreatEwVc2
import Derived.Test.YtfhjkkbaghanhaaGreatEwKeep0
set_option linter.unusedVariables false
set_option linter.unusedSimpArgs false
namespace Go.Ew
open Go.Ev Go.Deep
abbrev Rg:=Int × Int
abbrev It:=Int × List Rg
structure RdS where
 items:List It
 outer:List (Bool × Int)
 parted:Bool
 atoms:Int
 cls:Option (List Rg × Int)
def putR (σ:RdS) (op:Int):RdS:={ σ with items:=σ.items++[(op,[])] }
def joinR (σ:RdS):RdS:=if σ.atoms=2 then { putR σ 2 with atoms:=1 } else σ
def addClassR (σ:RdS) (l:List Rg):RdS:={ joinR σ with items:=(joinR σ).items++[(1,l)],atoms:=(joinR σ).atoms+1 }
def repeatR (σ:RdS) (op:Int):Option RdS:=if σ.atoms=0 then none else some (putR σ op)
def endR (σ:RdS):Option RdS:=if σ.atoms=0 then none else some { (if (joinR σ).parted=true then putR (joinR σ) 3 else joinR σ) with parted:=true,atoms:=0 }
def openR (σ:RdS):Option RdS:=if σ.outer.length<12 then some { joinR σ with outer:=(joinR σ).outer++[((joinR σ).parted,(joinR σ).atoms)],parted:=false,atoms:=0 } else none
def closeR (σ:RdS):Option RdS:=match σ.outer.getLast? with
 | none=>none
 | some g=>match endR σ with
   | none=>none
   | some τ=>some { τ with outer:=σ.outer.dropLast,parted:=g.1,atoms:=g.2+1 }
def openC (σ:RdS):Option RdS:=if σ.outer.length<12 then some { σ with cls:=some ([],0) } else none
def addC (l:List Rg) (place c:Int):Option (List Rg × Int):=if place≠2 then some (l++[(c,c)],1) else match l.getLast? with
 | none=>none
 | some r=>if c<r.1 then none else some (l.dropLast++[(r.1,c)],0)
def wholeC (l:List Rg) (place:Int):Bool:=decide (0<l.length)&&decide (place≠2)
def marksB:List Int:=[40,41,91,93,124,42,43,63,46,92]
def clsB:List Int:=[93,45,92]
def standsB (c:Int) (esc:Bool) (sp:List Int):Bool:=decide (32≤c)&&(decide (c≤126)&&(decide (c∈sp) == esc))
def markR (σ:RdS) (c:Int):Option RdS :=
 if c=40 then openR σ else if c=41 then closeR σ else if c=91 then openC σ else if c=46 then some (addClassR σ [(32,126)]) else if c=124 then endR σ else
 if c=42 then repeatR σ 4 else if c=43 then repeatR σ 5 else if c=63 then repeatR σ 6 else none
def inClassR (σ:RdS) (l:List Rg) (place c:Int) (esc:Bool):Option RdS :=
 if standsB c esc clsB=true then (match addC l place c with
  | some x=>some { σ with cls:=some x }
  | none=>none)
 else if c=45 then (if place=1 then some { σ with cls:=some (l,2) } else none)
 else if c=93 then (if wholeC l place=true then some { addClassR σ l with cls:=none } else none)
 else none
def takeR (σ:RdS) (c:Int) (esc:Bool):Option RdS:=match σ.cls with
 | some (l,place)=>inClassR σ l place c esc
 | none=>if standsB c esc marksB=true then some (addClassR σ [(c,c)]) else markR σ c
def finR (σ:RdS):Option RdS:=match σ.cls with
 | some _=>none
 | none=>if σ.outer.length=0 then endR σ else none
def rgC (l:List Rg):List Value:=l.flatMap fun r=>[.int .u8 r.1,.int .u8 r.2]
def grC (l:List (Bool × Int)):List Value:=l.flatMap fun g=>[.bool g.1,.int .i64 g.2]
def ItC (X:KH):List It→List Value→Prop
 | [],cs=>cs=[]
 | (op,l) :: r,cs=>∃ a c ds,cs = .int .i64 op :: .slice a l.length c :: ds∧kold X 2 a l.length=some (rgC l)∧ItC X r ds
theorem ItC.mono {X X':KH} (h:Le X X'):∀ {l:List It} {cs:List Value},ItC X l cs→ItC X' l cs
 | [],cs,q=>q
 | (op,l) :: r,cs,⟨a,c,ds,h1,h2,h3⟩=>⟨a,c,ds,h1,h.kold h2,ItC.mono h h3⟩
theorem ItC.app {X:KH} {op:Int} {l:List Rg} {a:OA} {c:Nat} (hk:kold X 2 a l.length=some (rgC l)):∀ {r:List It} {cs:List Value},ItC X r cs→ItC X (r++[(op,l)]) (cs++[.int .i64 op,.slice a l.length c])
 | [],cs,q=>by
   have q:cs=[]:=q
   subst q
   exact ⟨a,c,[],rfl,hk,rfl⟩
 | (op',l') :: r,cs,⟨a',c',ds,h1,h2,h3⟩=>by
  subst h1
  exact ⟨a',c',_,rfl,h2,ItC.app hk h3⟩
theorem ItC.len {X:KH}:∀ {l:List It} {cs:List Value},ItC X l cs→cs.length=l.length*2
 | [],cs,q=>by
   have q:cs=[]:=q
   subst q; rfl
 | (op,l) :: r,cs,⟨a,c,ds,h1,h2,h3⟩=>by
  have:=ItC.len h3
  subst h1
  simp only [List.length_cons]
  omega
inductive Gr (H:KH) (sz:Nat):OA→Nat→Nat→List Value→List Value→Prop where
 | nil:Gr H sz none 0 0 [] []
 | on (b n:Nat) (e:Ent) (cs ex:List Value) (h1:H b=some e) (h2:e.unk=sz) (h3:e.len=(cs++ex).length) (h4:rd e.cells 0 (cs++ex).length=some (cs++ex)) (h5:wrB e=true) (h6:cs.length=n*sz):Gr H sz (some ⟨b,0,none⟩) n unkU cs ex
theorem grC_len:∀ l:List (Bool × Int),(grC l).length=l.length*2
 | []=>rfl
 | g :: l=>by
   have:=grC_len l
   simp only [grC,List.flatMap_cons,List.length_append,List.length_cons,List.length_nil] at this ⊢
   omega
theorem rgC_len:∀ l:List Rg,(rgC l).length=l.length*2
 | []=>rfl
 | g :: l=>by
   have:=rgC_len l
   simp only [rgC,List.flatMap_cons,List.length_append,List.length_cons,List.length_nil] at this ⊢
   omega
theorem grC_app (l m:List (Bool × Int)):grC (l++m)=grC l++grC m:=by simp [grC]
theorem rgC_app (l m:List Rg):rgC (l++m)=rgC l++rgC m:=by simp [rgC]
theorem ldSub {H:KH} {b o:Nat} {cs:List Value} (h:ld H ⟨b,o,none⟩ cs) (j m:Nat) (hj:j+m≤cs.length):ld H ⟨b,o+j,none⟩ ((cs.drop j).take m):=by
 obtain ⟨_,e,he,hr⟩:=h
 have h1:=rd_drop hr (m:=j) (by omega)
 have h2:=rd_take h1 (m:=m) (by omega)
 refine ⟨rfl,e,he,?_⟩
 have:((cs.drop j).take m).length=m:=by simp; omega
 rw [this]
 exact h2
theorem Gr.row {H:KH} {sz n c:Nat} {a:OA} {cs ex:List Value} (h:Gr H sz a n c cs ex):kold H sz a n=some cs:=by
 cases h with
 | nil=>rfl
 | on b _ e _ _ h1 h2 h3 h4 h5 h6 =>
   refine kold_some.2 ⟨e,h1,?_⟩
   have:=rd_take h4 (m:=n*sz) (by simp; omega)
   rw [← h6,List.take_left] at this
   rw [← h6]
   exact this
theorem Gr.agree {H H':KH} {sz n c:Nat} {a:OA} {cs ex:List Value} (h:Gr H sz a n c cs ex) (hk:∀ k e,blk a=some k→H k=some e→H' k=some e):Gr H' sz a n c cs ex:=by
 cases h with
 | nil=>exact .nil
 | on b _ e _ _ h1 h2 h3 h4 h5 h6=>exact .on b n e cs ex (hk b e rfl h1) h2 h3 h4 h5 h6
theorem rdWr {e:BT (Option Value)} {N o:Nat} {xs ys zs vs:List Value} (h:rd e 0 N=some (xs++ys++zs)) (hx:xs.length=o) (hy:ys.length=vs.length):rd (wr e o vs) 0 N=some (xs++vs++zs):=by
 have hl:=rd_len h
 refine rd_some (by simp at hl ⊢; omega) fun j v hv=>?_
 rw [Nat.zero_add,tget_wr]
 by_cases hb:o≤j∧j<o+vs.length
 ·rw [if_pos hb]
  rw [List.append_assoc,List.getElem?_append_right (by omega),List.getElem?_append_left (by omega)] at hv
  rw [hx] at hv
  exact hv
 ·rw [if_neg hb]
  have:=rd_get h j v ?_
  ·simpa using this
  ·by_cases hj:j<o
   ·rw [List.append_assoc,List.getElem?_append_left (by omega)] at hv ⊢
    exact hv
   ·rw [List.getElem?_append_right (by simp; omega)] at hv ⊢
    simp only [List.length_append] at hv ⊢
    rw [hy]
    exact hv
theorem Gr.append {H:KH} {ti:TI} {n c nm:Nat} {a:OA} {cs ex new:List Value} (h:Gr H ti.size a n c cs ex) (hnm:H nm=none) (hm:new.length=ti.size) (hs:n+1≤1000000) (hb:ti.bytes≤1000000) (hz:1≤ti.size) (hro:ti.size≤1000000:=by decide) :
 ∃ a' H' ex',kappend H nm ti a n c 1 new=some (.slice a' (n+1) unkU,H')∧Gr H' ti.size a' (n+1) unkU (cs++new) ex'∧(ex=[]→ex'=[])∧(∀ k e,H k=some e→blk a≠some k→H' k=some e)∧(∀ b,blk a'=some b→blk a=some b∨b=nm):=by
 have hh:(Nat.ble (n+1) 1000000&&Nat.ble ti.bytes 1000000&&Nat.ble 1 ti.size)=true:=by
  simp only [Bool.and_eq_true]
  exact ⟨⟨Nat.ble_eq_true_of_le hs,Nat.ble_eq_true_of_le hb⟩,Nat.ble_eq_true_of_le hz⟩
 have hwn:∀ cs,wrB (mkEnt cs ti.size)=true:=fun cs=>by
  unfold wrB mkEnt noOb
  have:Nat.beq ti.size roU=false:=by
   cases hb:Nat.beq ti.size roU with
   | false=>rfl
   | true=>have:=Nat.eq_of_beq_eq_true hb; unfold roU at this; omega
  simp [this]
 have hlt0:∀ p q:Nat,¬ p≤q→Nat.ble p q=false:=fun p q hh=>by
  cases hb:Nat.ble p q with
  | false=>rfl
  | true=>exact absurd (Nat.le_of_ble_eq_true hb) hh
 have mk:∀ H1:KH,cs.length=n*ti.size→Gr (H1.new nm (mkEnt (cs++new) ti.size)) ti.size (some ⟨nm,0,none⟩) (n+1) unkU (cs++new) []:=by
  intro H1 hcl
  refine .on nm _ (mkEnt (cs++new) ti.size) _ _ (by simp [KH.new]) rfl (by simp [mkEnt]) ?_ (hwn _) (by simp [hcl,hm,Nat.add_mul])
  rw [List.append_nil]
  exact rd_some rfl fun j v hv=>by rw [Nat.zero_add]; simp only [mkEnt,tget_wr_nil]; exact hv
 cases h with
 | nil =>
   have hb0:Nat.blt 0 unkU=true:=rfl
   unfold kappend
   simp only [hh,cond_true,hb0]
   rw [hlt0 (0+1) 0 (by omega)]
   simp only [cond_false]
   exact ⟨_,_,[],rfl,mk H (by simp),fun _=>rfl,fun k e q _=>Le.new hnm k e q,fun b q=>by cases q; exact .inr rfl⟩
 | on b _ e _ _ h1 h2 h3 h4 h5 h6 =>
   have hb0:Nat.blt unkU unkU=false:=rfl
   unfold kappend
   have hq:(Nat.beq e.unk ti.size&&Nat.beq 0 ((unkU-unkU)*ti.size)&&(none:Option Nat).isNone&&wrB e)=true:=by
    rw [h2,Nat.sub_self,Nat.zero_mul,h5]
    simp
   simp only [hh,cond_true,hb0,cond_false,h1,hq]
   have hlen:(cs++ex).length=n*ti.size+ex.length:=by simp [h6]
   by_cases hin:(n+1)*ti.size≤e.len
   ·rw [show Nat.ble (0+(n+1)*ti.size) e.len=true from Nat.ble_eq_true_of_le (by omega)]
    have hex:ti.size≤ex.length:=by rw [h3,hlen,Nat.add_mul] at hin; omega
    have hrd:rd e.cells (0+n*ti.size) new.length=some (ex.take ti.size):=by
     have r1:=rd_drop h4 (m:=n*ti.size) (by omega)
     rw [hlen] at r1
     have r2:=rd_take r1 (m:=ti.size) (by simp; omega)
     rw [hm,← h6] 
     rw [← h6] at r2
     rw [List.drop_left] at r2
     exact r2
    have hst:kstore H ⟨b,0+n*ti.size,none⟩ new=some (H.put ⟨b,0+n*ti.size,none⟩ new):=by
     unfold kstore
     simp only [h1,h5,cond_true,hrd]
    simp only [cond_true,hst,ob]
    have hne:∀ k e',H k=some e'→k≠b→(H.put ⟨b,0+n*ti.size,none⟩ new) k=some e':=fun k e' q hk=>by
     simp only [KH.put]; rw [if_neg hk]; exact q
    refine ⟨_,_,ex.drop ti.size,rfl,?_,fun q=>by rw [q]; simp,fun k e' q hk=>hne k e' q (fun x=>hk (by rw [x]; rfl)),fun b' q=>.inl q⟩
    refine .on b _ ⟨wr e.cells (0+n*ti.size) new,e.len,e.unk,none⟩ _ _ (by simp only [KH.put,if_true,h1,Option.map_some]) h2 ?_ ?_ (wrB_keep h5) (by simp [h6,hm,Nat.add_mul])
    ·simp only [List.length_append,List.length_drop] at h3 ⊢
     omega
    ·have hl2:(cs++new++ex.drop ti.size).length=(cs++ex).length:=by simp only [List.length_append,List.length_drop]; omega
     rw [hl2]
     have he:cs++ex=cs++ex.take ti.size++ex.drop ti.size:=by rw [List.append_assoc,List.take_append_drop]
     have h4':rd e.cells 0 (cs++ex).length=some (cs++ex.take ti.size++ex.drop ti.size):=by rw [← he]; exact h4
     exact rdWr h4' (by rw [h6,Nat.zero_add]) (by simp only [List.length_take,hm]; omega)
   ·rw [hlt0 _ _ (by omega)]
    simp only [cond_false]
    have hrd:rd e.cells 0 (n*ti.size)=some cs:=by
     have:=rd_take h4 (m:=n*ti.size) (by omega)
     rw [← h6,List.take_left] at this
     rw [← h6]
     exact this
    simp only [hrd,ob]
    refine ⟨_,_,[],rfl,mk (H.del b) h6,fun _=>rfl,fun k e' q hne=>?_,fun b' q=>by cases q; exact .inr rfl⟩
    simp only [KH.new,KH.del]
    rw [if_neg (fun e1=>by subst e1; rw [hnm] at q; cases q),if_neg (fun e1=>hne (by rw [e1]; rfl))]
    exact q
end Go.Ew
set_option linter.unusedVariables false
namespace Go.Ew
open Go.Ev Go.Deep
def U8 (K:KH) (a:OA) (n:Nat):Prop:=∀ i,i<n→∃ b o x,a=some ⟨b,o,none⟩∧ld K ⟨b,o+i,none⟩ [.int .u8 x]∧0≤x∧x≤255
theorem U8.mono {K K':KH} (h:Le K K') {a:OA} {n:Nat} (q:U8 K a n):U8 K' a n:=fun i hi=>by
 obtain ⟨b,o,x,h1,h2,h3⟩:=q i hi
 exact ⟨b,o,x,h1,h.ld h2,h3⟩
structure PK (K:KH) (p:Nat) (H:KH):Prop where
 out:K p=none
 ex:∃ e a n c j,H=K.new p e∧wrB e=true∧rd e.cells 0 2=some [.slice a n c,.int .i64 j]∧0≤j∧n≤1000000∧U8 K a n
theorem PK.le {K H:KH} {p:Nat} (h:PK K p H):Le K H:=by
 obtain ⟨h1,e,a,n,c,j,rfl,_⟩:=h
 exact Le.new h1
theorem put_new {K:KH} {p o:Nat} {e:Ent} {vs:List Value}:(K.new p e).put ⟨p,o,none⟩ vs=K.new p ⟨wr e.cells o vs,e.len,e.unk,none⟩:=by
 funext k
 simp only [KH.put,KH.new]
 by_cases hk:k=p<;>simp [hk]
theorem rd_two {e:BT (Option Value)} {u v w:Value} (h:rd e 0 2=some [u,v]):rd (wr e 1 [w]) 0 2=some [u,w]:=by
 refine rd_some rfl fun j x hx=>?_
 rw [Nat.zero_add,tget_wr]
 match j,hx with
 | 0,hx =>
   rw [if_neg (by omega)]
   have:=rd_get h 0 u (by simp)
   simp at hx
   subst hx
   simpa using this
 | 1,hx =>
   rw [if_pos (by simp)]
   simpa using hx
 | j+2,hx=>simp at hx
end Go.Ew
namespace Go.Proofs.YtfhjkkbaghanhaaGreat
open Go.Ev Go.Ew
namespace Va
section
variable (ok : EnvOk (env Tryz.prog))
include ok
theorem c6 {a:OA} {n c:Nat} {H:KH} {Q:PQ} (hu:U8 H a n) (hn:n≤1000000) (hq:∀ p H',PK H p H'→Q (.pointer (some ⟨p,0,none⟩)) H'):Does (env Tryz.prog) 6 [.slice a n c] H Q:=by
 refine fn6 ok fun n1 hn1=>hq n1 _ ⟨hn1,_,a,n,c,0,rfl,rfl,mk_rd,by omega,hn,hu⟩
theorem c18 {K H:KH} {p:Nat} {m:Int} {Q:PQ} (hp:PK K p H) (hm:0<m) (hm2:m≤1000000) (hq:∀ x H',0≤x→x<m→PK K p H'→Q (.int .i64 x) H') :
 Does (env Tryz.prog) 18 [.pointer (some ⟨p,0,none⟩),.int .i64 m] H Q:=by
 have hp':=hp
 obtain ⟨h1,e,a,n,c,j,rfl,hwr,hr,hj,hn,hu⟩:=hp
 have hld:ld (K.new p e) ⟨p,0,none⟩ [.slice a n c,.int .i64 j]:=⟨rfl,e,by simp [KH.new],hr⟩
 refine fn18 ok ⟨trivial,rfl,j,ldSub hld 1 1 (by simp),rfl,a,n,c,ldSub hld 0 1 (by simp),fun h=>hq 0 _ (by omega) hm hp',fun h=>?_⟩
 have h:j<n:=by simpa using h
 have hw:IntKind.wrap .i64 (j+1)=j+1:=wrap64 (by omega) (by omega)
 have hw2:IntKind.wrap .i64 (j+1-1)=j:=by rw [wrap64 (by omega) (by omega)]; omega
 refine ⟨rfl,j,ldSub hld 1 1 (by simp),rfl,⟨[.int .i64 j],rfl,ldSub hld 1 1 (by simp)⟩,⟨⟨e,by simp [KH.new],hwr⟩⟩,trivial,rfl,?_⟩
 rw [hw,put_new]
 have hr2:=rd_two (w:=.int .i64 (j+1)) hr
 have hld2:ld (K.new p ⟨wr e.cells (0+1) [.int .i64 (j+1)],e.len,e.unk,none⟩) ⟨p,0,none⟩ [.slice a n c,.int .i64 (j+1)]:=⟨rfl,_,if_pos rfl,hr2⟩
 obtain ⟨j',rfl⟩:∃ j':Nat,j=j':=⟨j.toNat,by omega⟩
 obtain ⟨b,o,x,ha,hx,hx1,hx2⟩:=hu j' (by omega)
 refine ⟨a,n,c,ldSub hld2 0 1 (by simp),rfl,(j':Int)+1,ldSub hld2 1 1 (by simp),?_⟩
 rw [hw2]
 refine ⟨⟨by omega,by omega⟩,b,o,ha,x,?_,by omega,?_⟩
 ·have:=Le.ld (Le.new h1 (e:=⟨wr e.cells (0+1) [.int .i64 ((j':Int)+1)],e.len,e.unk,none⟩)) hx
  simpa using this
 ·rw [wrap64 (x:=x) (by omega) (by omega),Int.tmod_eq_emod_of_nonneg hx1]
  exact hq _ _ (Int.emod_nonneg _ (by omega)) (Int.emod_lt_of_pos _ hm) ⟨h1,_,a,n,c,(j':Int)+1,rfl,wrB_keep hwr,hr2,by omega,hn,hu⟩
end
end Va
end Go.Proofs.YtfhjkkbaghanhaaGreat
set_option linter.unusedVariables false
set_option linter.unusedSimpArgs false
namespace Go.Ew
open Go.Ev Go.Deep
structure Pt (X H:KH) (p:Nat) (cs:List Value):Prop where
 le:Le X H
 xp:X p=none
 ex:∃ e,H p=some e∧wrB e=true∧rd e.cells 0 7=some cs
theorem Pt.ld {X H:KH} {p:Nat} {cs:List Value} (h:Pt X H p cs):ld H ⟨p,0,none⟩ cs:=by
 obtain ⟨e,h1,h2,h3⟩:=h.ex
 exact ⟨rfl,e,h1,by rw [rd_len h3]; exact h3⟩
theorem Pt.len {X H:KH} {p:Nat} {cs:List Value} (h:Pt X H p cs):cs.length=7:=by
 obtain ⟨e,h1,h2,h3⟩:=h.ex
 exact rd_len h3
theorem Pt.may {X H:KH} {p:Nat} {cs:List Value} (h:Pt X H p cs):KH.may H p:=by
 obtain ⟨e,h1,h2,h3⟩:=h.ex
 exact ⟨e,h1,h2⟩
theorem Pt.put {X H:KH} {p o:Nat} {a b c vs:List Value} (h:Pt X H p (a++b++c)) (ha:a.length=o) (hb:b.length=vs.length):Pt X (H.put ⟨p,o,none⟩ vs) p (a++vs++c):=by
 obtain ⟨e,h1,h2,h3⟩:=h.ex
 refine ⟨fun k e' q=>?_,h.xp,⟨wr e.cells o vs,e.len,e.unk,none⟩,by simp only [KH.put,if_true,h1,Option.map_some],wrB_keep h2,rdWr h3 ha hb⟩
 simp only [KH.put]
 rw [if_neg (fun x=>by rw [x,h.xp] at q; cases q)]
 exact h.le k e' q
theorem put_ne {H:KH} {p o:Nat} {vs:List Value} {k:Nat} {e:Ent} (hk:k≠p) (q:H k=some e):(H.put ⟨p,o,none⟩ vs) k=some e:=by
 simp only [KH.put]; rw [if_neg hk]; exact q
theorem Pt.agree {X X' H H':KH} {p:Nat} {cs:List Value} (h:Pt X H p cs) (hl:Le X' H') (hx:X' p=none) (hp:∀ e,H p=some e→H' p=some e):Pt X' H' p cs:=by
 obtain ⟨e,h1,h2,h3⟩:=h.ex
 exact ⟨hl,hx,e,hp e h1,h2,h3⟩
structure Co (X H:KH) (p:Nat) (σ:RdS) (kc:List Value) (ai:OA) (ci:Nat) (ao:OA) (co:Nat) (csI exo:List Value):Prop where
 pt:Pt X H p ([.slice ai σ.items.length ci,.slice ao σ.outer.length co,.bool σ.parted,.int .i64 σ.atoms]++kc)
 xi:∀ b,blk ai=some b→X b=none∧b≠p
 xo:∀ b,blk ao=some b→X b=none∧b≠p∧blk ai≠some b
 items:Gr H 2 ai σ.items.length ci csI []
 itc:ItC X σ.items csI
 outer:Gr H 2 ao σ.outer.length co (grC σ.outer) exo
 small:(0≤σ.atoms∧σ.atoms≤2)∧σ.outer.length≤12∧∀ g∈σ.outer,0≤g.2∧g.2≤1
def CoX (X H:KH) (p:Nat) (σ:RdS) (kc:List Value):Prop:=∃ ai ci ao co csI exo,Co X H p σ kc ai ci ao co csI exo
section
variable {X H : KH} {p : Nat} {σ : RdS} {kc : List Value} {ai : OA} {ci : Nat} {ao : OA} {co : Nat} {csI exo : List Value}
theorem Co.c0 (h:Co X H p σ kc ai ci ao co csI exo):ld H ⟨p,0,none⟩ [.slice ai σ.items.length ci]:=by
 have:=ldSub h.pt.ld 0 1 (by simp)
 simpa using this
theorem Co.c1 (h:Co X H p σ kc ai ci ao co csI exo):ld H ⟨p,1,none⟩ [.slice ao σ.outer.length co]:=by
 have:=ldSub h.pt.ld 1 1 (by simp)
 simpa using this
theorem Co.c2 (h:Co X H p σ kc ai ci ao co csI exo):ld H ⟨p,2,none⟩ [.bool σ.parted]:=by
 have:=ldSub h.pt.ld 2 1 (by simp)
 simpa using this
theorem Co.c3 (h:Co X H p σ kc ai ci ao co csI exo):ld H ⟨p,3,none⟩ [.int .i64 σ.atoms]:=by
 have:=ldSub h.pt.ld 3 1 (by simp)
 simpa using this
theorem Co.c88 (h:Co X H p σ kc ai ci ao co csI exo):ld H ⟨p,2,none⟩ [.bool σ.parted,.int .i64 σ.atoms]:=by
 have:=ldSub h.pt.ld 2 2 (by simp)
 simpa using this
theorem Co.setNow (h:Co X H p σ kc ai ci ao co csI exo) {b:Bool} {n:Int} (hn:0≤n∧n≤2):Co X (H.put ⟨p,2,none⟩ [.bool b,.int .i64 n]) p { σ with parted:=b,atoms:=n } kc ai ci ao co csI exo where
 pt:=by
  have:=h.pt
  have:=Pt.put (o:=2) (a:=[.slice ai σ.items.length ci,.slice ao σ.outer.length co]) (b:=[.bool σ.parted,.int .i64 σ.atoms]) (c:=kc) (vs:=[.bool b,.int .i64 n]) (by simpa using this) rfl rfl
  simpa using this
 xi:=h.xi
 xo:=h.xo
 items:=h.items.agree fun k e hk q=>put_ne (h.xi k hk).2 q
 itc:=h.itc
 outer:=h.outer.agree fun k e hk q=>put_ne (h.xo k hk).2.1 q
 small:=⟨hn,h.small.2⟩
theorem Co.setAtoms (h:Co X H p σ kc ai ci ao co csI exo) {n:Int} (hn:0≤n∧n≤2):Co X (H.put ⟨p,3,none⟩ [.int .i64 n]) p { σ with atoms:=n } kc ai ci ao co csI exo where
 pt:=by
  have:=h.pt
  have:=Pt.put (o:=3) (a:=[.slice ai σ.items.length ci,.slice ao σ.outer.length co,.bool σ.parted]) (b:=[.int .i64 σ.atoms]) (c:=kc) (vs:=[.int .i64 n]) (by simpa using this) rfl rfl
  simpa using this
 xi:=h.xi
 xo:=h.xo
 items:=h.items.agree fun k e hk q=>put_ne (h.xi k hk).2 q
 itc:=h.itc
 outer:=h.outer.agree fun k e hk q=>put_ne (h.xo k hk).2.1 q
 small:=⟨hn,h.small.2⟩
theorem Gr.at (h:Gr H 2 ai ci co csI exo) {b:Nat} (hb:blk ai=some b):∃ e,H b=some e:=by
 cases h with
 | nil=>cases hb
 | on b' n e _ _ h1=>cases hb; exact ⟨e,h1⟩
theorem Co.lit (h:Co X H p σ kc ai ci ao co csI exo) {n:Nat} {e:Ent} (hn:H n=none):Co (X.new n e) (H.new n e) p σ kc ai ci ao co csI exo where
 pt:=by
  refine h.pt.agree (fun k e' q=>?_) ?_ fun e' q=>Le.new hn _ _ q
  ·simp only [KH.new] at q ⊢
   by_cases hk:k=n
   ·rw [if_pos hk] at q ⊢; exact q
   ·rw [if_neg hk] at q ⊢; exact h.pt.le k e' q
  ·obtain ⟨e1,h1,_⟩:=h.pt.ex
   simp only [KH.new]
   rw [if_neg (fun x=>by rw [x,hn] at h1; cases h1)]
   exact h.pt.xp
 xi b q:=by
  obtain ⟨e1,h1⟩:=h.items.at q
  refine ⟨?_,(h.xi b q).2⟩
  simp only [KH.new]
  rw [if_neg (fun x=>by rw [x,hn] at h1; cases h1)]
  exact (h.xi b q).1
 xo b q:=by
  obtain ⟨e1,h1⟩:=h.outer.at q
  refine ⟨?_,(h.xo b q).2⟩
  simp only [KH.new]
  rw [if_neg (fun x=>by rw [x,hn] at h1; cases h1)]
  exact (h.xo b q).1
 items:=h.items.agree fun k e' _ q=>Le.new hn _ _ q
 itc:=h.itc.mono (Le.new (h.pt.le.none hn))
 outer:=h.outer.agree fun k e' _ q=>Le.new hn _ _ q
 small:=h.small
theorem Co.sub {H':KH} (h:Co X H p σ kc ai ci ao co csI exo) (hl:Le H H'):Co X H' p σ kc ai ci ao co csI exo where
 pt:=h.pt.agree (h.pt.le.trans hl) h.pt.xp fun e q=>hl _ _ q
 xi:=h.xi
 xo:=h.xo
 items:=h.items.agree fun k e _ q=>hl _ _ q
 itc:=h.itc
 outer:=h.outer.agree fun k e _ q=>hl _ _ q
 small:=h.small
abbrev IT2:TI:=⟨2,32,true,3,0,0,[(0,1),(1,1)],[.int .i64 0,.slice none 0 0]⟩
abbrev GT2:TI:=⟨2,16,true,3,0,0,[(0,1),(1,1)],[.bool false,.int .i64 0]⟩
theorem Co.item (h:Co X H p σ kc ai ci ao co csI exo) (hs:σ.items.length≤1000) {op:Int} {l:List Rg} {a:OA} {c nm:Nat} (hk:kold X 2 a l.length=some (rgC l)) (hnm:H nm=none) :
 ∃ a' H' ,kappend H nm IT2 ai σ.items.length ci 1 [.int .i64 op,.slice a l.length c]=some (.slice a' (σ.items.length+1) unkU,H')∧(∃ e,H' p=some e∧H p=some e)∧ld H' ⟨p,0,none⟩ [.slice ai σ.items.length ci]∧KH.may H' p∧
  Co X (H'.put ⟨p,0,none⟩ [.slice a' (σ.items.length+1) unkU]) p { σ with items:=σ.items++[(op,l)] } kc a' unkU ao co (csI++[.int .i64 op,.slice a l.length c]) exo:=by
 obtain ⟨a',H',ex',g1,g2,g3,g4,g5⟩:=Gr.append (ti:=IT2) (new:=[.int .i64 op,.slice a l.length c]) h.items hnm rfl (by omega) (by decide) (by decide)
 have g3:=g3 rfl
 subst g3
 obtain ⟨ep,hp1,hp2,hp3⟩:=h.pt.ex
 have hpi:blk ai≠some p:=fun x=>(h.xi p x).2 rfl
 have hp':=g4 p ep hp1 hpi
 have hX:Le X H':=fun k e q=>g4 k e (h.pt.le k e q) fun x=>by rw [(h.xi k x).1] at q; cases q
 have pt':Pt X H' p ([.slice ai σ.items.length ci,.slice ao σ.outer.length co,.bool σ.parted,.int .i64 σ.atoms]++kc):=h.pt.agree hX h.pt.xp fun e q=>g4 p e q hpi
 have hnX:X nm=none:=h.pt.le.none hnm
 have hout:∀ b,blk ao=some b→b≠nm:=fun b q x=>by
  obtain ⟨e1,h1⟩:=h.outer.at q
  rw [x,hnm] at h1; cases h1
 refine ⟨a',H',g1,⟨ep,hp',hp1⟩,?_,pt'.may,?_⟩
 ·have:=ldSub pt'.ld 0 1 (by simp)
  simpa using this
 ·have hx:∀ b,blk a'=some b→X b=none∧b≠p:=fun b q=>by
   rcases g5 b q with q | q
   ·exact h.xi b q
   ·subst q; exact ⟨hnX,fun x=>by rw [← x,hnm] at hp1; cases hp1⟩
  refine ⟨?_,hx,fun b q=>⟨(h.xo b q).1,(h.xo b q).2.1,fun x=>?_⟩,?_,?_,?_,h.small⟩
  ·have:=Pt.put (o:=0) (a:=[]) (b:=[.slice ai σ.items.length ci]) (c:=[.slice ao σ.outer.length co,.bool σ.parted,.int .i64 σ.atoms]++kc) (vs:=[.slice a' (σ.items.length+1) unkU]) (by simpa using pt') rfl rfl
   simpa using this
  ·rcases g5 b x with x | x
   ·exact (h.xo b q).2.2 x
   ·exact hout b q x
  ·have:=g2.agree (H':=H'.put ⟨p,0,none⟩ [.slice a' (σ.items.length+1) unkU]) fun k e hk q=>put_ne (hx k hk).2 q
   simpa using this
  ·exact h.itc.app hk
  ·exact h.outer.agree fun k e hk q=>put_ne (h.xo k hk).2.1 (g4 k e q fun x=>(h.xo k hk).2.2 x)
end
theorem join_len (σ:RdS):(joinR σ).items.length≤σ.items.length+1:=by
 unfold joinR putR
 split<;>simp
theorem join_atoms {σ:RdS} (h:0≤σ.atoms∧σ.atoms≤2):0≤(joinR σ).atoms∧(joinR σ).atoms≤1:=by
 unfold joinR putR
 split
 ·simp
 ·omega
theorem join_outer (σ:RdS):(joinR σ).outer=σ.outer:=by unfold joinR putR; split<;>rfl
theorem join_zero {σ:RdS} (h:σ.atoms≠0):(joinR σ).atoms≠0:=by
 unfold joinR putR
 split
 ·simp
 ·exact h
theorem stOk {H:KH} {a:Addr} {ws vs:List Value} (h:ld H a ws) (hl:ws.length=vs.length):∃ l:List Value,l.length=vs.length∧ld H a l:=⟨ws,hl,h⟩
theorem lit_kold {H:KH} {b sz n:Nat} {cs:List Value} (hb:H b=some (mkEnt cs 0)) (hl:cs.length=n*sz):kold H sz (some ⟨b,0,none⟩) n=some cs:=by
 refine kold_some.2 ⟨_,hb,?_⟩
 rw [← hl]
 exact rd_some rfl fun j v hv=>by rw [Nat.zero_add]; simp only [mkEnt,tget_wr_nil]; exact hv
theorem CoX.sub {X H H':KH} {p:Nat} {σ:RdS} {kc:List Value} (h:CoX X H p σ kc) (hl:Le H H'):CoX X H' p σ kc:=by
 obtain ⟨ai,ci,ao,co,csI,exo,h⟩:=h
 exact ⟨ai,ci,ao,co,csI,exo,h.sub hl⟩
end Go.Ew
namespace Go.Proofs.YtfhjkkbaghanhaaGreat
open Go.Ev Go.Ew
namespace Va
section
variable (ok : EnvOk (env Tryz.prog))
include ok
theorem c105 {X H:KH} {p:Nat} {σ:RdS} {kc:List Value} {op:Int} {Q:PQ} (h:CoX X H p σ kc) (hs:σ.items.length≤1000) (hq:∀ H',CoX X H' p (putR σ op) kc→Q (.tuple #[]) H'):Does (env Tryz.prog) 105 [.pointer (some ⟨p,0,none⟩),.int .i64 op] H Q:=by
 obtain ⟨ai,ci,ao,co,csI,exo,h⟩:=h
 refine fn105 ok ⟨rfl,ai,_,ci,h.c0,fun n4 hn4 n5 hn5=>?_⟩
 have h1:=h.sub (Le.new (e:=mkEnt [.int .i64 op,.slice none 0 0] 0) hn4)
 obtain ⟨a',H',g1,_,g3,g4,g5⟩:=h1.item hs (op:=op) (l:=[]) (a:=none) (c:=0) rfl hn5
 refine ⟨1,_,knew_of (lit_kold (if_pos rfl) rfl),a',_,_,H',g1,rfl,stOk g3 rfl,g4,hq _ ⟨_,_,_,_,_,_,g5⟩⟩
theorem c100 {X H:KH} {p:Nat} {σ:RdS} {kc:List Value} {Q:PQ} (h:CoX X H p σ kc) (hs:σ.items.length≤1000) (hq:∀ H',CoX X H' p (joinR σ) kc→Q (.tuple #[]) H'):Does (env Tryz.prog) 100 [.pointer (some ⟨p,0,none⟩)] H Q:=by
 have h0:=h
 obtain ⟨ai,ci,ao,co,csI,exo,h⟩:=h
 refine fn100 ok ⟨rfl,rfl,_,h.c3,fun h2=>?_,fun h2=>?_⟩
 ·have h2:σ.atoms=2:=by simpa using h2
  refine c105 ok h0 hs fun H' hc=>?_
  obtain ⟨ai,ci,ao,co,csI,exo,hc⟩:=hc
  refine ⟨rfl,rfl,rfl,stOk hc.c3 rfl,hc.pt.may,hq _ ?_⟩
  have:=hc.setAtoms (n:=1) (by omega)
  rw [joinR,if_pos h2]
  exact ⟨_,_,_,_,_,_,this⟩
 ·have h2:¬ σ.atoms=2:=by simpa using h2
  have:=hq H (by rw [joinR,if_neg h2]; exact h0)
  exact this
theorem c88 {X H:KH} {p:Nat} {σ:RdS} {kc:List Value} {l:List Rg} {a:OA} {c:Nat} {Q:PQ} (h:CoX X H p σ kc) (hs:σ.items.length≤900) (hk:kold X 2 a l.length=some (rgC l)) (hq:∀ H',CoX X H' p (addClassR σ l) kc→Q (.tuple #[]) H'):Does (env Tryz.prog) 88 [.pointer (some ⟨p,0,none⟩),.slice a l.length c] H Q:=by
 have ha:0≤σ.atoms∧σ.atoms≤2:=by obtain ⟨_,_,_,_,_,_,h⟩:=h; exact h.small.1
 refine fn88 ok (c100 ok h (by omega) fun H2 hc=>?_)
 obtain ⟨ai,ci,ao,co,csI,exo,hc⟩:=hc
 have hl:=join_len σ
 have hat:=join_atoms ha
 refine ⟨rfl,rfl,ai,_,ci,hc.c0,fun n6 hn6 n7 hn7=>?_⟩
 have h1:=hc.sub (Le.new (e:=mkEnt [.int .i64 1,.slice a l.length c] 0) hn6)
 obtain ⟨a',H',g1,_,g3,g4,g5⟩:=h1.item (by omega) (op:=1) (l:=l) (a:=a) (c:=c) hk hn7
 have hw:IntKind.wrap .i64 ((joinR σ).atoms+1)=(joinR σ).atoms+1:=wrap64 (by omega) (by omega)
 refine ⟨1,_,knew_of (lit_kold (if_pos rfl) rfl),a',_,_,H',g1,rfl,stOk g3 rfl,g4,rfl,rfl,_,g5.c3,rfl,rfl,stOk g5.c3 rfl,g5.pt.may,hq _ ?_⟩
 have g6:=g5.setAtoms (n:=(joinR σ).atoms+1) (by omega)
 simp only [] at g6 ⊢
 rw [hw]
 exact ⟨_,_,_,_,_,_,g6⟩
theorem c104 {X H:KH} {p:Nat} {σ:RdS} {kc:List Value} {op:Int} {Q:PQ} (h:CoX X H p σ kc) (hs:σ.items.length≤1000) (hn:repeatR σ op=none→∀ H',CoX X H' p σ kc→Q (.bool false) H') (hq:∀ τ,repeatR σ op=some τ→∀ H',CoX X H' p τ kc→Q (.bool true) H'):Does (env Tryz.prog) 104 [.pointer (some ⟨p,0,none⟩),.int .i64 op] H Q:=by
 have h0:=h
 obtain ⟨ai,ci,ao,co,csI,exo,h⟩:=h
 refine fn104 ok ⟨rfl,rfl,_,h.c3,fun h2=>?_,fun h2=>?_⟩
 ·have h2:σ.atoms=0:=by simpa using h2
  exact hn (if_pos h2) H h0
 ·have h2:¬ σ.atoms=0:=by simpa using h2
  exact c105 ok h0 hs fun H' hc=>⟨rfl,hq _ (if_neg h2) _ hc⟩
theorem c90 {X H:KH} {p:Nat} {σ:RdS} {kc:List Value} {Q:PQ} (h:CoX X H p σ kc) (hs:σ.items.length≤900) (hn:endR σ=none→Q (.bool false) H) (hq:∀ τ,endR σ=some τ→∀ H',CoX X H' p τ kc→Q (.bool true) H'):Does (env Tryz.prog) 90 [.pointer (some ⟨p,0,none⟩)] H Q:=by
 have h0:=h
 obtain ⟨ai,ci,ao,co,csI,exo,h⟩:=h
 have hl:=join_len σ
 refine fn90 ok ⟨rfl,rfl,_,h.c3,fun h2=>?_,fun h2=>?_⟩
 ·have h2:σ.atoms=0:=by simpa using h2
  exact hn (if_pos h2)
 ·have h2:¬ σ.atoms=0:=by simpa using h2
  refine c100 ok h0 (by omega) fun H2 hc=>?_
  have hc0:=hc
  obtain ⟨ai,ci,ao,co,csI,exo,hc⟩:=hc
  refine ⟨rfl,rfl,rfl,_,hc.c2,fun hp=>?_,fun hp=>?_⟩
  ·refine c105 ok hc0 (by omega) fun H3 hd=>?_
   obtain ⟨ai,ci,ao,co,csI,exo,hd⟩:=hd
   refine ⟨rfl,rfl,stOk hd.c88 rfl,hd.pt.may,hq _ (if_neg h2) _ ?_⟩
   rw [if_pos hp]
   exact ⟨_,_,_,_,_,_,hd.setNow (by omega)⟩
  ·refine ⟨rfl,stOk hc.c88 rfl,hc.pt.may,hq _ (if_neg h2) _ ?_⟩
   rw [if_neg (by rw [hp]; decide)]
   exact ⟨_,_,_,_,_,_,hc.setNow (by omega)⟩
theorem c110 {X H:KH} {p:Nat} {σ:RdS} {kc:List Value} {Q:PQ} (h:CoX X H p σ kc) (hq:Q (.bool (decide (σ.outer.length<12))) H):Does (env Tryz.prog) 110 [.pointer (some ⟨p,0,none⟩)] H Q:=by
 obtain ⟨ai,ci,ao,co,csI,exo,h⟩:=h
 refine fn110 ok ⟨rfl,ao,_,co,h.c1,?_⟩
 have:decide ((σ.outer.length:Int)<12)=decide (σ.outer.length<12):=by rw [Bool.eq_iff_iff]; simp; omega
 rw [this]
 exact hq
end
end Va
end Go.Proofs.YtfhjkkbaghanhaaGreat
set_option linter.unusedVariables false
set_option linter.unusedSimpArgs false
namespace Go.Ew
open Go.Ev Go.Deep
section
variable {X H : KH} {p : Nat} {σ : RdS} {kc : List Value} {ai : OA} {ci : Nat} {ao : OA} {co : Nat} {csI exo : List Value}
theorem Co.push (h:Co X H p σ kc ai ci ao co csI exo) (hs:σ.outer.length<12) {b:Bool} {x:Int} (hx:0≤x∧x≤1) {nm:Nat} (hnm:H nm=none) :
 ∃ a' H' ex',kappend H nm GT2 ao σ.outer.length co 1 [.bool b,.int .i64 x]=some (.slice a' (σ.outer.length+1) unkU,H')∧ld H' ⟨p,1,none⟩ [.slice ao σ.outer.length co]∧KH.may H' p∧
  Co X (H'.put ⟨p,1,none⟩ [.slice a' (σ.outer.length+1) unkU]) p { σ with outer:=σ.outer++[(b,x)] } kc ai ci a' unkU csI ex':=by
 obtain ⟨a',H',ex',g1,g2,g3,g4,g5⟩:=Gr.append (ti:=GT2) (new:=[.bool b,.int .i64 x]) h.outer hnm rfl (by omega) (by decide) (by decide)
 obtain ⟨ep,hp1,hp2,hp3⟩:=h.pt.ex
 have hpo:blk ao≠some p:=fun x=>(h.xo p x).2.1 rfl
 have hX:Le X H':=fun k e q=>g4 k e (h.pt.le k e q) fun x=>by rw [(h.xo k x).1] at q; cases q
 have pt':Pt X H' p ([.slice ai σ.items.length ci,.slice ao σ.outer.length co,.bool σ.parted,.int .i64 σ.atoms]++kc):=h.pt.agree hX h.pt.xp fun e q=>g4 p e q hpo
 have hnX:X nm=none:=h.pt.le.none hnm
 have hin:∀ b,blk ai=some b→b≠nm:=fun b q x=>by
  obtain ⟨e1,h1⟩:=h.items.at q
  rw [x,hnm] at h1; cases h1
 have hxo:∀ b,blk a'=some b→X b=none∧b≠p∧blk ai≠some b:=fun b q=>by
  rcases g5 b q with q | q
  ·exact h.xo b q
  ·subst q; exact ⟨hnX,fun x=>(by rw [← x,hnm] at hp1; cases hp1),fun x=>hin b x rfl⟩
 refine ⟨a',H',ex',g1,?_,pt'.may,?_,h.xi,hxo,?_,h.itc,?_,⟨h.small.1,by simp; omega,fun g hg=>?_⟩⟩
 ·have:=ldSub pt'.ld 1 1 (by simp)
  simpa using this
 ·have:=Pt.put (o:=1) (a:=[.slice ai σ.items.length ci]) (b:=[.slice ao σ.outer.length co]) (c:=[.bool σ.parted,.int .i64 σ.atoms]++kc) (vs:=[.slice a' (σ.outer.length+1) unkU]) (by simpa using pt') rfl rfl
  simpa using this
 ·exact h.items.agree fun k e hk q=>put_ne (h.xi k hk).2 (g4 k e q fun x=>(h.xo k x).2.2 hk)
 ·have:=g2.agree (H':=H'.put ⟨p,1,none⟩ [.slice a' (σ.outer.length+1) unkU]) fun k e hk q=>put_ne (hxo k hk).2.1 q
  have e1:grC (σ.outer++[(b,x)])=grC σ.outer++[.bool b,.int .i64 x]:=by rw [grC_app]; rfl
  simpa [e1] using this
 ·rcases List.mem_append.1 hg with hg | hg
  ·exact h.small.2.2 g hg
  ·have:g=(b,x):=by simpa using hg
   subst this; exact hx
theorem Co.pop (h:Co X H p σ kc ai ci ao co csI exo) {l:List (Bool × Int)} {g:Bool × Int} (hl:σ.outer=l++[g]) :
 ∃ b e,ao=some ⟨b,0,none⟩∧co=unkU∧H b=some e∧b≠p∧ld H ⟨b,0+l.length*2,none⟩ [.bool g.1,.int .i64 g.2]∧
  (∀ H':KH,H' b=some e→kslice H' 2 (some ⟨b,0,none⟩) σ.outer.length unkU none (some (.int .i64 ((l.length:Nat):Int)))=some (.slice (some ⟨b,0,none⟩) l.length unkU))∧
  Co X (H.put ⟨p,1,none⟩ [.slice (some ⟨b,0,none⟩) l.length unkU]) p { σ with outer:=l } kc ai ci (some ⟨b,0,none⟩) unkU csI ([.bool g.1,.int .i64 g.2]++exo):=by
 have hn:σ.outer.length=l.length+1:=by rw [hl]; simp
 have hg:grC σ.outer=grC l++[.bool g.1,.int .i64 g.2]:=by rw [hl,grC_app]; rfl
 have hout:=h.outer
 have hxo:=h.xo
 have hpt:=h.pt
 generalize hN:σ.outer.length=N at *
 generalize hC:grC σ.outer=C at *
 cases hout with
 | nil=>omega
 | on b _ e _ _ h1 h2 h3 h4 h5 h6 =>
   have hbp:b≠p:=(hxo b rfl).2.1
   have hll:=grC_len l
   have hCl:C.length=l.length*2+2:=by rw [hg]; simp [hll]
   refine ⟨b,e,rfl,rfl,h1,hbp,?_,fun H' hb=>?_,?_,h.xi,hxo,?_,h.itc,?_,⟨h.small.1,(show l.length≤12 by have:=h.small.2.1; omega),fun g' hg'=>h.small.2.2 g' (by rw [hl]; simp [hg'])⟩⟩
   ·have:=ldSub (H:=H) (b:=b) (o:=0) (cs:=C++exo) ⟨rfl,e,h1,h4⟩ (l.length*2) 2 (by simp; omega)
    rw [hg,List.append_assoc,← hll,List.drop_left] at this
    rw [← hll]
    simpa using this
   ·have hcap:kcap H' ⟨b,0,none⟩ unkU 2=some (e.len/2):=by
     unfold kcap
     have hb0:Nat.blt unkU unkU=false:=rfl
     have hq:(Nat.beq e.unk 2&&Nat.beq 0 ((unkU-unkU)*2)&&Nat.ble 1 2&&Nat.ble 0 e.len)=true:=by
      rw [h2,Nat.sub_self]; simp
     simp only [hb0,cond_false,hb,hq,cond_true,Nat.sub_zero]
    have hlen:l.length+1≤e.len/2:=by
     rw [h3,List.length_append,hCl]; omega
    unfold kslice
    have hb0:Nat.blt unkU unkU=false:=rfl
    have n1:natOf 0 none=some 0:=rfl
    have n2:natOf N (some (.int .i64 ((l.length:Nat):Int)))=some l.length:=by
     simp [natOf]
    simp only [Option.isNone_none,cond_true,n1,n2,hcap]
    have hq:(Nat.ble 0 l.length&&Nat.ble l.length (e.len/2)&&Nat.ble N (e.len/2)&&true)=true:=by
     simp only [Bool.and_eq_true]
     exact ⟨⟨⟨rfl,Nat.ble_eq_true_of_le (by omega)⟩,Nat.ble_eq_true_of_le (by omega)⟩,trivial⟩
    rw [hq]
    have hq2:Nat.blt 0 (e.len/2)=true:=Nat.ble_eq_true_of_le (by omega)
    simp only [cond_true,hb0,cond_false,hq2]
    simp
   ·have:=Pt.put (o:=1) (a:=[.slice ai σ.items.length ci]) (b:=[.slice (some ⟨b,0,none⟩) N unkU]) (c:=[.bool σ.parted,.int .i64 σ.atoms]++kc) (vs:=[.slice (some ⟨b,0,none⟩) l.length unkU]) (by simpa using hpt) rfl rfl
    simpa using this
   ·exact h.items.agree fun k e hk q=>put_ne (h.xi k hk).2 q
   ·refine .on b _ e _ _ (put_ne hbp h1) h2 ?_ ?_ h5 hll
    ·rw [h3,hg,List.append_assoc]
    ·rw [← List.append_assoc,← hg]; exact h4
end
theorem end_outer {σ τ:RdS} (h:endR σ=some τ):τ.outer=σ.outer:=by
 unfold endR at h
 split at h
 ·cases h
 ·cases h
  show (if (joinR σ).parted=true then putR (joinR σ) 3 else joinR σ).outer=_
  split
  ·exact join_outer σ
  ·exact join_outer σ
theorem end_len {σ τ:RdS} (h:endR σ=some τ):τ.items.length≤σ.items.length+2:=by
 have:=join_len σ
 unfold endR at h
 split at h
 ·cases h
 ·cases h
  show (if (joinR σ).parted=true then putR (joinR σ) 3 else joinR σ).items.length≤_
  split
  ·simp [putR]; omega
  ·omega
end Go.Ew
namespace Go.Proofs.YtfhjkkbaghanhaaGreat
open Go.Ev Go.Ew
namespace Va
section
variable (ok : EnvOk (env Tryz.prog))
include ok
theorem c101 {X H:KH} {p:Nat} {σ:RdS} {kc:List Value} {Q:PQ} (h:CoX X H p σ kc) (hs:σ.items.length≤900) (hn:openR σ=none→Q (.bool false) H) (hq:∀ τ,openR σ=some τ→∀ H',CoX X H' p τ kc→Q (.bool true) H'):Does (env Tryz.prog) 101 [.pointer (some ⟨p,0,none⟩)] H Q:=by
 have ha:0≤σ.atoms∧σ.atoms≤2:=by obtain ⟨_,_,_,_,_,_,h⟩:=h; exact h.small.1
 refine fn101 ok (c110 ok h ⟨_,rfl,fun h1=>?_,fun h1=>?_⟩)
 ·exact hn (if_neg (by simpa using h1))
 ·have h1:σ.outer.length<12:=by simpa using h1
  refine c100 ok h (by omega) fun H2 hc=>?_
  obtain ⟨ai,ci,ao,co,csI,exo,hc⟩:=hc
  have hat:=join_atoms ha
  have ho:=join_outer σ
  refine ⟨rfl,trivial,rfl,ao,_,co,hc.c1,rfl,_,_,hc.c88,fun n8 hn8 n9 hn9=>?_⟩
  have h2:=hc.sub (Le.new (e:=mkEnt [.bool (joinR σ).parted,.int .i64 (joinR σ).atoms] 0) hn8)
  obtain ⟨a',H',ex',g1,g2,g3,g4⟩:=h2.push (by rw [ho]; exact h1) (b:=(joinR σ).parted) (x:=(joinR σ).atoms) hat hn9
  refine ⟨1,_,knew_of (lit_kold (if_pos rfl) rfl),a',_,_,H',g1,⟨rfl,trivial⟩,rfl,stOk g2 rfl,g3,trivial,rfl,stOk g4.c88 rfl,g4.pt.may,hq _ (if_pos h1) _ ?_⟩
  exact ⟨_,_,_,_,_,_,g4.setNow (by omega)⟩
theorem c102 {X H:KH} {p:Nat} {σ:RdS} {kc:List Value} {Q:PQ} (h:CoX X H p σ kc) (hs:σ.items.length≤900) (hn:closeR σ=none→Q (.bool false) H) (hq:∀ τ,closeR σ=some τ→∀ H',CoX X H' p τ kc→Q (.bool true) H'):Does (env Tryz.prog) 102 [.pointer (some ⟨p,0,none⟩)] H Q:=by
 have h0:=h
 obtain ⟨ai,ci,ao,co,csI,exo,h⟩:=h
 have hsm:=h.small.2.1
 have hw:IntKind.wrap .i64 (((σ.outer.length:Nat):Int)-1)=((σ.outer.length:Nat):Int)-1:=wrap64 (by omega) (by omega)
 refine fn102 ok ⟨rfl,ao,_,co,h.c1,fun h1=>?_,fun h1=>?_⟩
 ·rw [hw] at h1
  have h1:=of_decide_eq_true h1
  have:σ.outer=[]:=List.eq_nil_of_length_eq_zero (by omega)
  exact hn (by unfold closeR; rw [this]; rfl)
 ·rw [hw] at h1
  have h1:=of_decide_eq_false h1
  obtain ⟨l,g,hl⟩:∃ l g,σ.outer=l++[g]:=by
   refine ⟨σ.outer.dropLast,σ.outer.getLast (by intro e; rw [e] at h1; simp at h1),?_⟩
   exact (List.dropLast_concat_getLast _).symm
  have hlast:σ.outer.getLast? = some g:=by rw [hl]; simp
  have hdrop:σ.outer.dropLast=l:=by rw [hl]; simp
  have hgb:=h.small.2.2 g (by rw [hl]; simp)
  refine c90 ok h0 hs (fun he=>⟨_,rfl,fun _=>hn ?_,fun h=>(by cases h)⟩) fun τ he H5 hc=>⟨_,rfl,fun h=>(by cases h),fun _=>?_⟩
  ·unfold closeR; rw [hlast]; simp only [he]
  ·have hot:=end_outer he
   have hn1:σ.outer.length=l.length+1:=by rw [hl]; simp
   obtain ⟨ai,ci,ao,co,csI,exo,hc⟩:=hc
   obtain ⟨b,e,rfl,rfl,p1,p2,p3,p4,p5⟩:=hc.pop (l:=l) (g:=g) (by rw [hot,hl])
   have hln:((σ.outer.length:Nat):Int)-1=((l.length:Nat):Int):=by omega
   rw [hw,hln]
   have hcl:=hc.c1
   rw [hot] at hcl p4
   have nw:=hc.setNow (b:=g.1) (n:=g.2) (by omega)
   obtain ⟨b',e',q0,_,q1,q2,q3,q4,q5⟩:=nw.pop (l:=l) (g:=g) (by show τ.outer=_; rw [hot,hl])
   cases q0
   have hk1:=p4 H5 p1
   have hk2:=p4 (H5.put ⟨p,2,none⟩ [.bool g.1,.int .i64 g.2]) (put_ne p2 p1)
   refine ⟨trivial,rfl,_,_,_,hcl,⟨by omega,by omega⟩,b,0,rfl,g.1,g.2,by simpa using p3,rfl,_,_,_,hcl,_,_,_,hk1,rfl,stOk hc.c88 rfl,hc.pt.may,⟨rfl,rfl,⟨_,_,_,hk2,rfl⟩,trivial⟩,rfl,?_⟩
   have hcl2:=nw.c1
   refine ⟨stOk hcl2 rfl,nw.pt.may,trivial,rfl,rfl,_,q5.c3,rfl,rfl,stOk q5.c3 rfl,q5.pt.may,hq { τ with outer:=l,parted:=g.1,atoms:=g.2+1 } ?_ _ ?_⟩
   ·unfold closeR; rw [hlast]; simp only [he,hdrop]
   ·have hfin:=q5.setAtoms (n:=g.2+1) (by omega)
    have hw2:IntKind.wrap .i64 (g.2+1)=g.2+1:=wrap64 (by omega) (by omega)
    show CoX X (KH.put _ _ [.int .i64 (IntKind.wrap .i64 (g.2+1))]) p _ kc
    rw [hw2]
    exact ⟨_,_,_,_,_,_,hfin⟩
end
end Va
end Go.Proofs.YtfhjkkbaghanhaaGreat
