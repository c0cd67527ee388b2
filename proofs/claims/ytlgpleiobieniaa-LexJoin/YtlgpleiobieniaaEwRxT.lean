import Derived.Test.YtlgpleiobieniaaEwRxS
set_option linter.unusedVariables false
set_option linter.unusedSimpArgs false
namespace Go.Ew
open Go.Ev Go.Deep
theorem ItR.mono {H H':KH} {l:List It} {a:OA} (h:ItR H l a) (hl:Le H H'):ItR H' l a:=by
 obtain ⟨cs,h1,h2⟩:=h
 exact ⟨cs,hl.kold h1,h2.mono hl⟩
end Go.Ew
namespace Go.Proofs.Ytlgpleiobieniaa
open Go.Ev Go.Ew
namespace Va
section
variable (ok : EnvOk (env Try.prog))
include ok
end
end Va
end Go.Proofs.Ytlgpleiobieniaa
set_option linter.unusedVariables false
set_option linter.unusedSimpArgs false
namespace Go.Ew
open Go.Ev Go.Deep
theorem Own.base {H0 H1 H:KH} {sz n c:Nat} {a:OA} {cs:List Value} (h:Own H0 H sz a n c cs) (hb:∀ b,blk a=some b→H1 b=none):Own H1 H sz a n c cs:=by
 cases h with
 | nil=>exact .nil
 | lit b _ _ h1 h2 h3 h4=>exact .lit b n cs h1 h2 h3 (hb b rfl)
 | grown b _ _ e h1 h2 h3 h4 h5 h6=>exact .grown b n cs e h1 h2 h3 h4 (hb b rfl) h6
theorem Own.out {H0 H:KH} {sz n c:Nat} {a:OA} {cs:List Value} (h:Own H0 H sz a n c cs) {b:Nat} (hb:blk a=some b):H0 b=none:=by
 cases h with
 | nil=>cases hb
 | lit b' _ _ h1 h2 h3 h4=>cases hb; exact h4
 | grown b' _ _ e h1 h2 h3 h4 h5 h6=>cases hb; exact h5
theorem Own.agree {H0 H H':KH} {sz n c:Nat} {a:OA} {cs:List Value} (h:Own H0 H sz a n c cs) (hk:∀ k e,blk a=some k→H k=some e→H' k=some e):Own H0 H' sz a n c cs:=by
 cases h with
 | nil=>exact .nil
 | lit b _ _ h1 h2 h3 h4=>exact .lit b n cs (hk b _ rfl h1) h2 h3 h4
 | grown b _ _ e h1 h2 h3 h4 h5 h6=>exact .grown b n cs e (hk b _ rfl h1) h2 h3 h4 h5 h6
theorem Own.know {X H:KH} {p sz n c:Nat} {a:OA} {cs:List Value} (h:Own X H sz a n c cs) (hl:Le X H) (hx:X p=none) (hp:blk a≠some p):∃ Y,Le X Y∧Le Y H∧Y p=none∧kold Y sz a n=some cs∧∀ k,blk a≠some k→X k=none→Y k=none:=by
 have key:∀ (b:Nat) (e:Ent),H b=some e→X b=none→b≠p→Le X (X.new b e)∧Le (X.new b e) H∧(X.new b e) p=none:=fun b e h1 h2 h3=>by
  refine ⟨Le.new h2,fun k e' q=>?_,?_⟩
  ·simp only [KH.new] at q
   split at q
   ·rename_i hk; subst hk; cases q; exact h1
   ·exact hl k e' q
  ·simp only [KH.new]; rw [if_neg (fun q=>h3 q.symm)]; exact hx
 have hc:=h.cells
 cases h with
 | nil=>exact ⟨X,Le.refl _,hl,hx,rfl,fun k _ q=>q⟩
 | lit b _ _ h1 h2 h3 h4 =>
   obtain ⟨k1,k2,k3⟩:=key b _ h1 h4 (fun q=>hp (by rw [← q]; rfl))
   refine ⟨_,k1,k2,k3,lit_kold (if_pos rfl) h2,fun k q1 q2=>?_⟩
   simp only [KH.new]; rw [if_neg (fun q=>q1 (by rw [q]; rfl))]; exact q2
 | grown b _ _ e h1 h2 h3 h4 h5 h6 =>
   obtain ⟨k1,k2,k3⟩:=key b _ h1 h5 (fun q=>hp (by rw [← q]; rfl))
   refine ⟨_,k1,k2,k3,kold_some.2 ⟨e,if_pos rfl,h4⟩,fun k q1 q2=>?_⟩
   simp only [KH.new]; rw [if_neg (fun q=>q1 (by rw [q]; rfl))]; exact q2
section
variable {X H : KH} {p : Nat} {s : ByteArray} {i : Nat} {b : Bool}
theorem P3.up (h:P3 X H p s i b) {H':KH} (hl:Le H H'):P3 X H' p s i b:=by
 obtain ⟨e,h1,h2⟩:=h.ex
 exact ⟨h.le.trans hl,h.xp,e,hl p e h1,h2⟩
theorem P3.re (h:P3 X H p s i b) {X':KH} (hl:Le X' H) (hx:X' p=none):P3 X' H p s i b:=⟨hl,hx,h.ex⟩
theorem P3.kept (h0:P3 X H p s i b) {H':KH} {j:Nat} {b':Bool} (h:P3 (H.del p) H' p s j b'):P3 X H' p s j b'∧∀ k e,k≠p→H k=some e→H' k=some e:=by
 have key:∀ k e,k≠p→H k=some e→H' k=some e:=fun k e hk q=>h.le k e (by simp only [KH.del]; rw [if_neg hk]; exact q)
 exact ⟨⟨fun k e q=>key k e (fun x=>by rw [x,h0.xp] at q; cases q) (h0.le k e q),h0.xp,h.ex⟩,key⟩
theorem P3.append {ti:TI} {a:OA} {n c m nm:Nat} {cs new:List Value} (h:P3 X H p s i b) (ho:Own X H ti.size a n c cs) (hp:blk a≠some p) (hnm:H nm=none) (hm:new.length=m*ti.size) (hs:n+m≤1000000) (hb:ti.bytes≤1000000) (hz:1≤ti.size) (hro:ti.size≤1000000:=by decide) :
 ∃ a' c' H',kappend H nm ti a n c m new=some (.slice a' (n+m) c',H')∧P3 X H' p s i b∧Own X H' ti.size a' (n+m) c' (cs++new)∧blk a'≠some p∧(∀ k e,H k=some e→blk a≠some k→H' k=some e):=by
 obtain ⟨e,h1,h2,h3⟩:=h.ex
 have hl:Le (X.new p e) H:=fun k e' q=>by
  simp only [KH.new] at q
  split at q
  ·rename_i hk; subst hk; cases q; exact h1
  ·exact h.le k e' q
 have ho2:Own (X.new p e) H ti.size a n c cs:=ho.base fun b q=>by
  simp only [KH.new]
  rw [if_neg (fun x=>hp (by rw [q,x]))]
  exact ho.out q
 obtain ⟨a',c',H',g1,g2,g3,g4,g5⟩:=ho2.append hl hnm hm hs hb hz hro
 refine ⟨a',c',H',g1,⟨(Le.new h.xp).trans g3,h.xp,e,g3 p e (if_pos rfl),h2,h3⟩,g2.base fun b q=>?_,fun q=>?_,g4⟩
 ·have:=g2.out q
  simp only [KH.new] at this
  split at this
  ·cases this
  ·exact this
 ·have:=g2.out q
  simp only [KH.new,if_true] at this
  cases this
end
structure OutR (X Z H:KH) (p:Nat) (s:ByteArray) (a:OA) (c:Nat) (I:List It) (i i':Nat) (b':Bool):Prop where
 le:Le X Z
 pt:P3 Z H p s i' b'
 own:∃ cs,Own Z H 2 a I.length c cs∧ItC Z I cs
 np:blk a≠some p
 lt:i<i'
 ln:I.length+2≤3*(i'-i)
 up:i'≤s.size+6
 gd:b'=false→i'≤s.size
theorem OutR.nil {X Z H:KH} {p:Nat} {s:ByteArray} {i i':Nat} {b':Bool} (hl:Le X Z) (h:P3 Z H p s i' b') (h1:i<i') (h2:i'≤s.size+6) (h3:b'=false→i'≤s.size):OutR X Z H p s none 0 [] i i' b' :=
 ⟨hl,h,⟨[],.nil,rfl⟩,fun q=>(by cases q),h1,by show 0+2≤_; omega,h2,h3⟩
theorem OutR.one {X K:KH} {p:Nat} {s:ByteArray} {i i':Nat} {b':Bool} {l:List Rg} {a:OA} {c n:Nat} (h:P3 X K p s i' b') (ho:Own X K 2 a l.length c (rgC l)) (hp:blk a≠some p) (hn:K n=none) (h1:i<i') (h2:i'≤s.size+6) (h3:b'=false→i'≤s.size) :
 ∃ Z,OutR X Z (K.new n (mkEnt [.int .i64 1,.slice a l.length c] 0)) p s (some ⟨n,0,none⟩) 1 [(1,l)] i i' b':=by
 obtain ⟨Y,y1,y2,y3,y4,y5⟩:=ho.know h.le h.xp hp
 have hle:Le K (K.new n (mkEnt [.int .i64 1,.slice a l.length c] 0)):=Le.new hn
 have hY:Y n=none:=y2.none hn
 refine ⟨Y,y1,(h.up hle).re (y2.trans hle) y3,⟨[.int .i64 1,.slice a l.length c],.lit n 1 _ (if_pos rfl) rfl (by unfold unkU; omega) hY,?_⟩,fun q=>?_,h1,by show 1+2≤_; omega,h2,h3⟩
 ·exact ⟨a,c,[],rfl,y4,rfl⟩
 ·have q:n=p:=by cases q; rfl
  obtain ⟨e,q1,_⟩:=h.ex
  rw [q,q1] at hn; cases hn
end Go.Ew
namespace Go.Proofs.Ytlgpleiobieniaa
open Go.Ev Go.Ew
namespace Va
section
variable (ok : EnvOk (env Try.prog))
include ok
end
end Va
end Go.Proofs.Ytlgpleiobieniaa
set_option linter.unusedVariables false
set_option linter.unusedSimpArgs false
namespace Go.Ew
open Go.Ev Go.Deep
def Jn (x:Int):List It:=if x=2 then [(2,[])] else []
def Dn (x:Int):Int:=if x=0 then 1 else 2
theorem add_is {P:List It} {O:List (Bool × Int)} {pt:Bool} {x:Int} (hx:x=0∨x=1∨x=2) (l:List Rg) (c:Option (List Rg × Int)):addClassR ⟨P,O,pt,x,c⟩ l=⟨P++Jn x++[(1,l)],O,pt,Dn x,c⟩:=by
 rcases hx with q | q | q<;>subst q
 ·show RdS.mk _ _ _ _ _=_; simp [addClassR,joinR,Jn,Dn]
 ·simp [addClassR,joinR,Jn,Dn]
 ·simp [addClassR,joinR,Jn,Dn,putR]
theorem fins_app (P I:List It) (b:Bool) (x:Int):fins (P++I) b x=P++fins I b x:=by
 unfold fins
 split<;>simp
theorem close_is {I:List It} {O:List (Bool × Int)} {g:Bool × Int} {b:Bool} {x:Int} (h:x=1∨x=2):closeR ⟨I,O++[g],b,x,none⟩=some ⟨fins I b x,O,g.1,g.2+1,none⟩:=by
 unfold closeR
 have h1:(O++[g]).getLast? = some g:=by simp
 have h2:=end_is (I:=I) (O:=O++[g]) (b:=b) h
 simp only [h1,h2]
 simp
theorem open_is {P:List It} {O:List (Bool × Int)} {pt:Bool} {x:Int} (hx:x=0∨x=1∨x=2) (h:O.length<12):∃ y,y+1=Dn x∧openR ⟨P,O,pt,x,none⟩=some ⟨P++Jn x,O++[(pt,y)],false,0,none⟩:=by
 unfold openR
 rw [if_pos h]
 rcases hx with q | q | q<;>subst q
 ·exact ⟨0,rfl,by simp [joinR,Jn]⟩
 ·exact ⟨1,rfl,by simp [joinR,Jn]⟩
 ·exact ⟨1,rfl,by simp [joinR,Jn,putR]⟩
theorem OutR.row {X Z H:KH} {p:Nat} {s:ByteArray} {a:OA} {c:Nat} {I:List It} {i i':Nat} {b':Bool} (h:OutR X Z H p s a c I i i' b') {o:Nat} {vs:List Value}:∃ cs,Own Z (H.put ⟨p,o,none⟩ vs) 2 a I.length c cs∧ItC Z I cs:=by
 obtain ⟨cs,h1,h2⟩:=h.own
 exact ⟨cs,h1.agree fun k e q1 q2=>put_ne (fun x=>h.np (by rw [q1,x])) q2,h2⟩
end Go.Ew
namespace Go.Proofs.Ytlgpleiobieniaa
open Go.Ev Go.Ew
namespace Va
section
variable (ok : EnvOk (env Try.prog)) {s : ByteArray} (hs : s.size ≤ 24)
include ok hs
end
section
variable (ok : EnvOk (env Try.prog))
include ok
end
end Va
end Go.Proofs.Ytlgpleiobieniaa
set_option linter.unusedVariables false
set_option linter.unusedSimpArgs false
namespace Go.Ew
open Go.Ev Go.Deep
end Go.Ew
namespace Go.Proofs.Ytlgpleiobieniaa
open Go.Ev Go.Ew
namespace Va
section
variable (ok : EnvOk (env Try.prog))
include ok
end
end Va
end Go.Proofs.Ytlgpleiobieniaa
