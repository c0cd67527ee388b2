import Derived.Test.YtefiipkfppaibaaEwS4
import Derived.Test.YtefiipkfppaibaaEwVc1
set_option linter.unusedVariables false
set_option linter.unusedSimpArgs false
namespace Go.Ew
open Go.Ev Go.Deep
structure Sy where
 tok:Bool
 pos:Int
structure Tk where
 name:ByteArray
 rex:ByteArray
 skip:Bool
structure Nt where
 name:ByteArray
 ia:OA
 ic:Nat
 inh:List ByteArray
 sa:OA
 sc:Nat
 syn:List ByteArray
structure Pr where
 left:Int
 ra:OA
 rc:Nat
 right:List Sy
 ua:OA
 un:Nat
 uc:Nat
structure Gm where
 ta:OA
 tc:Nat
 toks:List Tk
 na:OA
 nc:Nat
 nts:List Nt
 pa:OA
 pc:Nat
 prods:List Pr
def syC (l:List Sy):List Value:=l.flatMap fun s=>[.bool s.tok,.int .i64 s.pos]
def tkC (l:List Tk):List Value:=l.flatMap fun t=>[.string t.name,.string t.rex,.bool t.skip]
def ntC (l:List Nt):List Value:=l.flatMap fun x=>[.string x.name,.slice x.ia x.inh.length x.ic,.slice x.sa x.syn.length x.sc]
def prC (l:List Pr):List Value:=l.flatMap fun x=>[.int .i64 x.left,.slice x.ra x.right.length x.rc,.slice x.ua x.un x.uc]
def gv (g:Gm):Value:=.agg #[.slice g.ta g.toks.length g.tc,.slice g.na g.nts.length g.nc,.slice g.pa g.prods.length g.pc]
section
variable {H : KH} {a : OA} {i : Nat}
theorem sy_ld {l:List Sy} (h:kold H 2 a l.length=some (syC l)) (hi:i<l.length):∃ b o,a=some ⟨b,o,none⟩/\ld H ⟨b,o+i*2,none⟩ [.bool l[i].tok,.int .i64 l[i].pos]:=it_ld (k:=2) (f:=fun (s:Sy)=>[.bool s.tok,.int .i64 s.pos]) (fun _=>rfl) h hi
theorem tk_ld {l:List Tk} (h:kold H 3 a l.length=some (tkC l)) (hi:i<l.length):∃ b o,a=some ⟨b,o,none⟩/\ld H ⟨b,o+i*3,none⟩ [.string l[i].name,.string l[i].rex,.bool l[i].skip]:=it_ld (k:=3) (f:=fun (t:Tk)=>[.string t.name,.string t.rex,.bool t.skip]) (fun _=>rfl) h hi
theorem nt_ld {l:List Nt} (h:kold H 3 a l.length=some (ntC l)) (hi:i<l.length):∃ b o,a=some ⟨b,o,none⟩/\ld H ⟨b,o+i*3,none⟩ [.string l[i].name,.slice l[i].ia l[i].inh.length l[i].ic,.slice l[i].sa l[i].syn.length l[i].sc]:=it_ld (k:=3) (f:=fun (x:Nt)=>[.string x.name,.slice x.ia x.inh.length x.ic,.slice x.sa x.syn.length x.sc]) (fun _=>rfl) h hi
theorem pr_ld {l:List Pr} (h:kold H 3 a l.length=some (prC l)) (hi:i<l.length):∃ b o,a=some ⟨b,o,none⟩/\ld H ⟨b,o+i*3,none⟩ [.int .i64 l[i].left,.slice l[i].ra l[i].right.length l[i].rc,.slice l[i].ua l[i].un l[i].uc]:=it_ld (k:=3) (f:=fun (x:Pr)=>[.int .i64 x.left,.slice x.ra x.right.length x.rc,.slice x.ua x.un x.uc]) (fun _=>rfl) h hi
end
def NtsI (H:KH) (l:List Nt):Prop:=∀ i (h:i<l.length),kold H 1 l[i].ia l[i].inh.length=some (sC l[i].inh)/\kold H 1 l[i].sa l[i].syn.length=some (sC l[i].syn)
structure CutI (H:KH) (a:OA) (c:Nat) (l:List Sy):Prop where
 cut:∀ m,m<=l.length->∃ a' c',kslice H 2 a l.length c (some (.int .i64 (m:Int))) none=some (.slice a' (l.length-m) c')/\kold H 2 a' (l.length-m)=some (syC (l.drop m))
theorem CutI.up {H H':KH} {a:OA} {c:Nat} {l:List Sy} (h:CutI H a c l) (hl:Le H H'):CutI H' a c l:=⟨fun m hm=>by
 obtain ⟨a',c',h1,h2⟩:=h.cut m hm
 exact ⟨a',c',hl.kslice h1,hl.kold h2⟩⟩
theorem syC_drop (l:List Sy) (m:Nat):(syC l).drop (m*2)=syC (l.drop m):=(fm_cut (k:=2) (f:=fun (s:Sy)=>[.bool s.tok,.int .i64 s.pos]) (fun _=>rfl) l m).1
theorem CutI.grown {H:KH} {a:OA} {c:Nat} {l:List Sy} (h:Gs H 2 a l.length c (syC l)):CutI H a c l:=⟨fun m hm=>by
 obtain ⟨a',c',h1,h2⟩:=h.cutAt hm (by decide)
 exact ⟨a',c',h1,by rw [h2,syC_drop]⟩⟩
def PrsI (H:KH) (l:List Pr):Prop:=∀ i (h:i<l.length),kold H 2 l[i].ra l[i].right.length=some (syC l[i].right)/\CutI H l[i].ra l[i].rc l[i].right
theorem NtsI.up {H H':KH} {l:List Nt} (h:NtsI H l) (hl:Le H H'):NtsI H' l:=fun i hi=>⟨hl.kold (h i hi).1,hl.kold (h i hi).2⟩
theorem PrsI.up {H H':KH} {l:List Pr} (h:PrsI H l) (hl:Le H H'):PrsI H' l:=fun i hi=>⟨hl.kold (h i hi).1,(h i hi).2.up hl⟩
structure GI (H:KH) (g:Gm):Prop where
 t:kold H 3 g.ta g.toks.length=some (tkC g.toks)
 n:kold H 3 g.na g.nts.length=some (ntC g.nts)
 p:kold H 3 g.pa g.prods.length=some (prC g.prods)
 ni:NtsI H g.nts
 pi:PrsI H g.prods
theorem GI.up {H H':KH} {g:Gm} (h:GI H g) (hl:Le H H'):GI H' g:=⟨hl.kold h.t,hl.kold h.n,hl.kold h.p,h.ni.up hl,h.pi.up hl⟩
structure Few (g:Gm):Prop where
 t:g.toks.length<=1000
 n:g.nts.length<=1000
 p:g.prods.length<=1000
 ts:∀ i (h:i<g.toks.length),g.toks[i].name.size<=140737488355328
 ns:∀ i (h:i<g.nts.length),g.nts[i].name.size<=140737488355328/\g.nts[i].inh.length<=1000/\g.nts[i].syn.length<=1000/\(∀ s∈g.nts[i].inh,s.size<=140737488355328)/\∀ s∈g.nts[i].syn,s.size<=140737488355328
 ps:∀ i (h:i<g.prods.length),g.prods[i].right.length<=1000
structure NameOk (s:ByteArray):Prop where
 a:1<=s.size
 b:s.size<=8
 c:∀ i,i<s.size->(97<=byteAt s i/\byteAt s i<=122)\/(0<i/\48<=byteAt s i/\byteAt s i<=57)
structure NamesOk (l:List ByteArray):Prop where
 a:∀ i (h:i<l.length),NameOk l[i]
 b:∀ i (h:i<l.length) j (h2:j<i),l[i]≠l[j]'(by omega)
structure SymOk (T:List Tk) (N:Nat) (s:Sy):Prop where
 a:0<=s.pos
 b:s.tok=true->∃ h:s.pos.toNat<T.length,T[s.pos.toNat].skip=false
 c:s.tok=false->s.pos<N
structure AttrsOk (x:Nt):Prop where
 a:x.inh.length+x.syn.length<=4
 b:NamesOk (x.inh++x.syn)
structure ProdOk (T:List Tk) (N:Nat) (p:Pr):Prop where
 a:0<=p.left/\p.left<N
 b:p.right.length<=5
 c:∀ i (h:i<p.right.length),SymOk T N p.right[i]
def namesG (g:Gm):List ByteArray:=g.toks.map Tk.name++g.nts.map Nt.name
structure MayG (g:Gm):Prop where
 t:1<=g.toks.length/\g.toks.length<=8
 n:1<=g.nts.length/\g.nts.length<=8
 p:1<=g.prods.length/\g.prods.length<=16
 nm:NamesOk (namesG g)
 at_:∀ i (h:i<g.nts.length),AttrsOk g.nts[i]
 pr:∀ i (h:i<g.prods.length),ProdOk g.toks g.nts.length g.prods[i]
def SameN (x y:Nt):Prop:=x.name=y.name/\x.inh=y.inh/\x.syn=y.syn
def SameP (x y:Pr):Prop:=x.left=y.left/\x.right=y.right
structure SameG (g h:Gm):Prop where
 t:g.toks=h.toks
 n:∃ e:g.nts.length=h.nts.length,∀ i (h1:i<g.nts.length),SameN g.nts[i] (h.nts[i]'(by omega))
 p:∃ e:g.prods.length=h.prods.length,∀ i (h1:i<g.prods.length),SameP g.prods[i] (h.prods[i]'(by omega))
end Go.Ew
namespace Go.Proofs.Ytefiipkfppaibaa
open Go.Ev Go.Ew
namespace Va
section
variable (ok : EnvOk (env Try.prog))
include ok
theorem c47 {v:Value} {H:KH} {Q:PQ} {g:Gm} (hq:Q (gv g) H):Does (env Try.prog) 47 [gv g] H Q:=fn47 ok hq
theorem c64 {a:OA} {n c:Nat} {x y:Int} {H:KH} {Q:PQ} (hq:∀ b,(b=true↔(x<=n/\n<=y))->Q (.bool b) H):Does (env Try.prog) 64 [.slice a n c,.int .i64 x,.int .i64 y] H Q :=
 fn64 ok ⟨fun h=>hq _ (by have:=of_decide_eq_true h; simp [this]),fun h=>hq _ (by have:=of_decide_eq_false h; simp [this])⟩
theorem c65 {a:OA} {n c:Nat} {x y:Int} {H:KH} {Q:PQ} (hq:∀ b,(b=true↔(x<=n/\n<=y))->Q (.bool b) H):Does (env Try.prog) 65 [.slice a n c,.int .i64 x,.int .i64 y] H Q :=
 fn65 ok ⟨fun h=>hq _ (by have:=of_decide_eq_true h; simp [this]),fun h=>hq _ (by have:=of_decide_eq_false h; simp [this])⟩
theorem c66 {a:OA} {n c:Nat} {x y:Int} {H:KH} {Q:PQ} (hq:∀ b,(b=true↔(x<=n/\n<=y))->Q (.bool b) H):Does (env Try.prog) 66 [.slice a n c,.int .i64 x,.int .i64 y] H Q :=
 fn66 ok ⟨fun h=>hq _ (by have:=of_decide_eq_true h; simp [this]),fun h=>hq _ (by have:=of_decide_eq_false h; simp [this])⟩
theorem c79 {a:OA} {n c:Nat} {x y:Int} {H:KH} {Q:PQ} (hq:∀ b,(b=true↔(x<=n/\n<=y))->Q (.bool b) H):Does (env Try.prog) 79 [.slice a n c,.int .i64 x,.int .i64 y] H Q :=
 fn79 ok ⟨fun h=>hq _ (by have:=of_decide_eq_true h; simp [this]),fun h=>hq _ (by have:=of_decide_eq_false h; simp [this])⟩
theorem c78 {a:OA} {n c:Nat} {x:Int} {H:KH} {Q:PQ} (hq:∀ b,(b=true↔(0<=x/\x<n))->Q (.bool b) H):Does (env Try.prog) 78 [.slice a n c,.int .i64 x] H Q :=
 fn78 ok ⟨fun h=>hq _ (by have:=of_decide_eq_true h; simp [this]),fun h=>hq _ (by have:=of_decide_eq_false h; simp [this])⟩
theorem c86 {a:OA} {n c:Nat} {x:Int} {H:KH} {Q:PQ} (hq:∀ b,(b=true↔(0<=x/\x<n))->Q (.bool b) H):Does (env Try.prog) 86 [.slice a n c,.int .i64 x] H Q :=
 fn86 ok ⟨fun h=>hq _ (by have:=of_decide_eq_true h; simp [this]),fun h=>hq _ (by have:=of_decide_eq_false h; simp [this])⟩
theorem c82 {x:Int} {H:KH} {Q:PQ} (hq:∀ b,(b=true↔(48<=x/\x<=57))->Q (.bool b) H):Does (env Try.prog) 82 [.int .u8 x] H Q :=
 fn82 ok ⟨fun h=>hq _ (by have:=of_decide_eq_true h; simp [this]),fun h=>hq _ (by have:=of_decide_eq_false h; simp [this])⟩
theorem c83 {x:Int} {H:KH} {Q:PQ} (hq:∀ b,(b=true↔(97<=x/\x<=122))->Q (.bool b) H):Does (env Try.prog) 83 [.int .u8 x] H Q :=
 fn83 ok ⟨fun h=>hq _ (by have:=of_decide_eq_true h; simp [this]),fun h=>hq _ (by have:=of_decide_eq_false h; simp [this])⟩
theorem c75 {s:ByteArray} {H:KH} {Q:PQ} (hq:∀ b,(b=true↔NameOk s)->Q (.bool b) H):Does (env Try.prog) 75 [.string s] H Q:=by
 refine fn75 ok ⟨fun h=>?_,fun h=>⟨fun h2=>?_,fun h2=>⟨⟨by omega,?_⟩,?_⟩⟩⟩
 .have:=of_decide_eq_true h
  exact hq false ⟨fun z=>(by cases z),fun z=>by have:=z.a; omega⟩
 .have:=of_decide_eq_true h2
  exact hq false ⟨fun z=>(by cases z),fun z=>by have:=z.b; omega⟩
 .have:=of_decide_eq_false h; omega
 have p1:1<=s.size:=by have:=of_decide_eq_false h; omega
 have p2:s.size<=8:=by have:=of_decide_eq_false h2; omega
 refine c82 ok fun b hb=>⟨b,rfl,fun z=>?_,fun z=>?_⟩
 .refine hq false ⟨fun z=>(by cases z),fun y=>?_⟩
  have:=y.c 0 (by omega)
  have w:=hb.1 z
  have e:Int.toNat 0=0:=rfl
  rw [e] at w
  omega
 .have w:¬ (48<=byteAt s 0/\byteAt s 0<=57):=fun y=>by
   have:=hb.2 y
   rw [z] at this; cases this
  unfold vc75_L1
  refine ⟨fun k s4 x5 x6 H7=>s4=s/\x5=s.size/\H7=H/\∃ i:Nat,x6=i/\i<=s.size/\k=s.size-i/\∀ j,j<i->(97<=byteAt s j/\byteAt s j<=122)\/(0<j/\48<=byteAt s j/\byteAt s j<=57),⟨_,rfl,rfl,rfl,0,rfl,by omega,rfl,fun j z=>absurd z (by omega)⟩,?_⟩
  rintro k s4 x5 x6 H7 ⟨rfl,rfl,rfl,i,rfl,hi,rfl,hv⟩
  refine ⟨fun hlt=>?_,fun hge=>?_⟩
  .have hlt:i<s4.size:=by have:=of_decide_eq_true hlt; omega
   have e0:Int.toNat ((i:Nat):Int)=i:=by omega
   have hi1:IntKind.wrap .i64 (((i:Nat):Int)+1)=((i+1:Nat):Int):=by rw [wrap64 (by omega) (by omega)]; omega
   rw [e0,hi1]
   refine ⟨⟨by omega,by omega⟩,c83 ok fun b1 h1=>⟨b1,rfl,fun z1=>⟨⟨by omega,by omega⟩,c82 ok fun b2 h2=>⟨b2,rfl,fun z2=>?_,fun z2=>?_⟩⟩,fun z1=>?_⟩⟩
   .refine hq false ⟨fun z=>(by cases z),fun y=>?_⟩
    cases b1
    .cases b2
     .rcases y.c i hlt with q | q
      .have:=h1.2 q; cases this
      .have:=h2.2 q.2; cases this
     .cases z2
    .cases z1
   .have b2t:b2=true:=by cases b2; cases z2; rfl
    refine ⟨s4.size-(i+1),by omega,rfl,rfl,rfl,i+1,rfl,by omega,rfl,fun j hj=>?_⟩
    by_cases e:j=i
    .subst e
     refine .inr ⟨?_,h2.1 b2t⟩
     rcases Nat.eq_zero_or_pos j with q | q
     .subst q; exact absurd (h2.1 b2t) w
     .exact q
    .exact hv j (by omega)
   .have b1t:b1=true:=by cases b1; cases z1; rfl
    refine ⟨s4.size-(i+1),by omega,rfl,rfl,rfl,i+1,rfl,by omega,rfl,fun j hj=>?_⟩
    by_cases e:j=i
    .subst e; exact .inl (h1.1 b1t)
    .exact hv j (by omega)
  .have hge:i=s4.size:=by have:=of_decide_eq_false hge; omega
   subst hge
   exact hq true ⟨fun _=>⟨p1,p2,hv⟩,fun _=>rfl⟩
theorem c73 {s:ByteArray} {H:KH} {Q:PQ} (hs:s.size<=140737488355328) (hq:∀ b,(b=true↔NameOk s)->Q (.bool b) H):Does (env Try.prog) 73 [.string s] H Q:=by
 refine fn73 ok ?_
 show vc73_L1 _ _ _
 unfold vc73_L1
 refine ⟨fun k s4 x5 H6=>s4=s/\H6=H/\∃ i:Nat,x5=i/\i<=s.size/\k=s.size-i/\∀ j,j<i->(97<=byteAt s j/\byteAt s j<=122)\/(0<j/\48<=byteAt s j/\byteAt s j<=57),⟨_,rfl,rfl,0,rfl,by omega,rfl,fun j z=>absurd z (by omega)⟩,?_⟩
 rintro k s4 x5 H6 ⟨rfl,rfl,i,rfl,hi,rfl,hv⟩
 refine ⟨fun hlt=>?_,fun hge=>?_⟩
 .have hlt:i<s4.size:=by have:=of_decide_eq_true hlt; omega
  have e0:Int.toNat ((i:Nat):Int)=i:=by omega
  have hi1:IntKind.wrap .i64 (((i:Nat):Int)+1)=((i+1:Nat):Int):=by rw [wrap64 (by omega) (by omega)]; omega
  have go:((97<=byteAt s4 i/\byteAt s4 i<=122)\/(0<i/\48<=byteAt s4 i/\byteAt s4 i<=57))->∀ j,j<i+1->(97<=byteAt s4 j/\byteAt s4 j<=122)\/(0<j/\48<=byteAt s4 j/\byteAt s4 j<=57):=fun h j hj=>by
   by_cases e:j=i
   .subst e; exact h
   .exact hv j (by omega)
  have no:¬ ((97<=byteAt s4 i/\byteAt s4 i<=122)\/(0<i/\48<=byteAt s4 i/\byteAt s4 i<=57))->Q (.bool false) H6:=fun h=>hq false ⟨fun z=>(by cases z),fun z=>absurd (z.c i hlt) h⟩
  rw [e0,hi1]
  refine ⟨⟨by omega,by omega⟩,fun z1=>⟨⟨by omega,by omega⟩,fun z2=>⟨fun z3=>?_,fun z3=>⟨⟨by omega,by omega⟩,fun z4=>?_,fun z4=>⟨⟨by omega,by omega⟩,fun z5=>?_,fun z5=>?_⟩⟩⟩,fun z2=>?_⟩,fun z1=>⟨fun _=>⟨fun z3=>?_,fun z3=>⟨⟨by omega,by omega⟩,fun z4=>?_,fun z4=>⟨⟨by omega,by omega⟩,fun z5=>?_,fun z5=>?_⟩⟩⟩,fun z2=>(by cases z2)⟩⟩
  all_goals simp only [Bool.not_eq_true',Bool.not_eq_false',decide_eq_true_eq,decide_eq_false_iff_not] at *
  all_goals first
   | (refine no ?_; omega)
   | exact ⟨s4.size-(i+1),by omega,trivial,trivial,i+1,rfl,by omega,rfl,go (by omega)⟩
 .have hge:i=s4.size:=by have:=of_decide_eq_false hge; omega
  subst hge
  refine ⟨fun z=>hq _ ?_,fun z=>hq _ ?_⟩
  .have:=of_decide_eq_true z
   rw [decide_eq_true_eq]
   exact ⟨fun y=>⟨by omega,by omega,hv⟩,fun y=>by have:=y.b; omega⟩
  .have:=of_decide_eq_false z
   exact ⟨fun y=>(by cases y),fun y=>by have:=y.a; omega⟩
end
end Va
end Go.Proofs.Ytefiipkfppaibaa
namespace Go.Ew
open Go.Ev Go.Deep
inductive Nul (G:List Pr):Int->Prop where
 | mk (p:Pr) (hp:p∈G) (h1:∀ s∈p.right,s.tok=false) (h2:∀ s∈p.right,Nul G s.pos):Nul G p.left
def NulR (G:List Pr) (r:List Sy):Prop:=∀ s∈r,s.tok=false/\Nul G s.pos
inductive Fst (G:List Pr):Int->Int->Prop where
 | tok (p:Pr) (hp:p∈G) (u v:List Sy) (s:Sy) (hr:p.right=u++s :: v) (hn:NulR G u) (hs:s.tok=true):Fst G p.left s.pos
 | nt (p:Pr) (hp:p∈G) (u v:List Sy) (s:Sy) (t:Int) (hr:p.right=u++s :: v) (hn:NulR G u) (hs:s.tok=false) (h:Fst G s.pos t):Fst G p.left t
def FstR (G:List Pr) (r:List Sy) (t:Int):Prop:=∃ u s v,r=u++s :: v/\NulR G u/\((s.tok=true/\s.pos=t)\/(s.tok=false/\Fst G s.pos t))
inductive Flw (G:List Pr) (M:Int):Int->Int->Prop where
 | zero:Flw G M 0 M
 | fst (p:Pr) (hp:p∈G) (u v:List Sy) (s:Sy) (t:Int) (hr:p.right=u++s :: v) (hs:s.tok=false) (h:FstR G v t):Flw G M s.pos t
 | nul (p:Pr) (hp:p∈G) (u v:List Sy) (s:Sy) (t:Int) (hr:p.right=u++s :: v) (hs:s.tok=false) (hv:NulR G v) (h:Flw G M p.left t):Flw G M s.pos t
theorem NulR.left {G:List Pr} {p:Pr} (hp:p∈G) (h:NulR G p.right):Nul G p.left:=.mk p hp (fun s hs=>(h s hs).1) fun s hs=>(h s hs).2
theorem FstR.left {G:List Pr} {p:Pr} {t:Int} (hp:p∈G) (h:FstR G p.right t):Fst G p.left t:=by
 obtain ⟨u,s,v,hr,hn,⟨h1,rfl⟩ | ⟨h1,h2⟩⟩:=h
 .exact .tok p hp u v s hr hn h1
 .exact .nt p hp u v s t hr hn h1 h2
def ofK (nl:Int->Bool) (fs:Int->Int->Bool):List Sy->(Int->Bool) × Bool
 | []=>(fun _=>false,true)
 | s :: r=>bif s.tok then (fun t=>decide (t=s.pos),false) else
    bif nl s.pos then (fun t=>fs s.pos t||(ofK nl fs r).1 t,(ofK nl fs r).2) else (fun t=>fs s.pos t,false)
theorem ofK_sound {G:List Pr} {nl:Int->Bool} {fs:Int->Int->Bool} (h1:∀ x,nl x=true->Nul G x) (h2:∀ x t,fs x t=true->Fst G x t):∀ r,((ofK nl fs r).2=true->NulR G r)/\∀ t,(ofK nl fs r).1 t=true->FstR G r t
 | []=>⟨fun _ s hs=>(by cases hs),fun t h=>(by cases h)⟩
 | s :: r=>by
   obtain ⟨i1,i2⟩:=ofK_sound h1 h2 r
   unfold ofK
   cases hs:s.tok
   .cases hn:nl s.pos
    .refine ⟨fun h=>(by cases h),fun t h=>⟨[],s,r,rfl,fun _ q=>(by cases q),.inr ⟨hs,h2 _ _ h⟩⟩⟩
    .refine ⟨fun h x hx=>?_,fun t h=>?_⟩
     .rcases List.mem_cons.1 hx with rfl | hx
      .exact ⟨hs,h1 _ hn⟩
      .exact i1 h x hx
     .have h:(fs s.pos t||(ofK nl fs r).1 t)=true:=h
      rcases Bool.or_eq_true _ _ ▸ h with h | h
      .exact ⟨[],s,r,rfl,fun _ q=>(by cases q),.inr ⟨hs,h2 _ _ h⟩⟩
      .obtain ⟨u,x,v,rfl,k2,k3⟩:=i2 t h
       exact ⟨s :: u,x,v,rfl,fun y hy=>by
        rcases List.mem_cons.1 hy with rfl | hy
        .exact ⟨hs,h1 _ hn⟩
        .exact k2 y hy,k3⟩
   .exact ⟨fun h=>(by cases h),fun t h=>⟨[],s,r,rfl,fun _ q=>(by cases q),.inl ⟨hs,(of_decide_eq_true h).symm⟩⟩⟩
theorem ofK_full {G:List Pr} {nl:Int->Bool} {fs:Int->Int->Bool} (h1:∀ x,Nul G x->nl x=true) (h2:∀ x t,Fst G x t->fs x t=true):∀ r,(NulR G r->(ofK nl fs r).2=true)/\∀ t,FstR G r t->(ofK nl fs r).1 t=true
 | []=>⟨fun _=>rfl,fun t ⟨u,s,v,h,_⟩=>by cases u<;>cases h⟩
 | s :: r=>by
   obtain ⟨i1,i2⟩:=ofK_full h1 h2 r
   unfold ofK
   refine ⟨fun h=>?_,fun t h=>?_⟩
   .have:=h s (List.mem_cons_self ..)
    rw [this.1,h1 _ this.2]
    exact i1 fun x hx=>h x (List.mem_cons_of_mem _ hx)
   .obtain ⟨u,x,v,hr,hn,hx⟩:=h
    cases u with
    | nil =>
      cases hr
      rcases hx with ⟨a,rfl⟩ | ⟨a,b⟩
      .rw [a]; exact decide_eq_true rfl
      .rw [a]
       cases nl s.pos
       .exact h2 _ _ b
       .show (fs s.pos t||_)=true
        rw [h2 _ _ b]; rfl
    | cons y u =>
      cases hr
      have:=hn s (List.mem_cons_self ..)
      rw [this.1,h1 _ this.2]
      show (fs s.pos t||(ofK nl fs (u++x :: v)).1 t)=true
      have:=i2 t ⟨u,x,v,rfl,fun z hz=>hn z (List.mem_cons_of_mem _ hz),hx⟩
      have:(ofK nl fs (u++x :: v)).1 t=true:=this
      rw [this,Bool.or_true]
theorem nul_all {G:List Pr} {nl:Int->Bool} (h:∀ p∈G,(∀ s∈p.right,s.tok=false/\nl s.pos=true)->nl p.left=true):∀ x,Nul G x->nl x=true:=by
 intro x hx
 induction hx with
 | mk p hp h1 h2 ih=>exact h p hp fun s hs=>⟨h1 s hs,ih s hs⟩
theorem fst_all {G:List Pr} {nl:Int->Bool} {fs:Int->Int->Bool} (h1:∀ x,Nul G x->nl x=true) (h:∀ p∈G,∀ t,(ofK nl fs p.right).1 t=true->fs p.left t=true):∀ x t,Fst G x t->fs x t=true:=by
 have skip:∀ (u w:List Sy) (t:Int),NulR G u->(ofK nl fs w).1 t=true->(ofK nl fs (u++w)).1 t=true:=by
  intro u
  induction u with
  | nil=>intro w t _ h; exact h
  | cons s u ih =>
    intro w t hn hw
    have:=hn s (List.mem_cons_self ..)
    rw [List.cons_append,ofK,this.1,h1 _ this.2]
    show (fs s.pos t||(ofK nl fs (u++w)).1 t)=true
    rw [ih w t (fun z hz=>hn z (List.mem_cons_of_mem _ hz)) hw,Bool.or_true]
 intro x t hx
 induction hx with
 | tok p hp u v s hr hn hs =>
   refine h p hp _ ?_
   rw [hr]
   refine skip u _ _ hn ?_
   rw [ofK,hs]
   exact decide_eq_true rfl
 | nt p hp u v s t hr hn hs _ ih =>
   refine h p hp _ ?_
   rw [hr]
   refine skip u _ _ hn ?_
   rw [ofK,hs]
   cases nl s.pos
   .exact ih
   .show (fs s.pos t||_)=true
    rw [ih]; rfl
theorem flw_all {G:List Pr} {M:Int} {nl:Int->Bool} {fs fl:Int->Int->Bool} (h1:∀ x,Nul G x->nl x=true) (h2:∀ x t,Fst G x t->fs x t=true) (h0:fl 0 M=true)
 (h:∀ p∈G,∀ u s v,p.right=u++s :: v->s.tok=false->∀ t,((ofK nl fs v).1 t||((ofK nl fs v).2&&fl p.left t))=true->fl s.pos t=true):∀ x t,Flw G M x t->fl x t=true:=by
 intro x t hx
 induction hx with
 | zero=>exact h0
 | fst p hp u v s t hr hs hf=>exact h p hp u s v hr hs t (by rw [(ofK_full h1 h2 v).2 t hf]; rfl)
 | nul p hp u v s t hr hs hv _ ih=>exact h p hp u s v hr hs t (by rw [(ofK_full h1 h2 v).1 hv,ih]; simp)
theorem ofK_mem {nl:Int->Bool} {fs:Int->Int->Bool} {B:Int->Prop} (h:∀ x t,fs x t=true->B t):∀ {r:List Sy},(∀ s∈r,s.tok=true->B s.pos)->∀ t,(ofK nl fs r).1 t=true->B t
 | [],_,t,q=>by cases q
 | s :: r,hr,t,q=>by
   rw [ofK] at q
   cases hs:s.tok<;>rw [hs] at q
   .cases hn:nl s.pos<;>rw [hn] at q
    .exact h _ _ q
    .have q:(fs s.pos t||(ofK nl fs r).1 t)=true:=q
     rcases Bool.or_eq_true _ _ ▸ q with q | q
     .exact h _ _ q
     .exact ofK_mem h (fun x hx=>hr x (List.mem_cons_of_mem _ hx)) t q
   .have q:t=s.pos:=of_decide_eq_true q
    rw [q]
    exact hr s (List.mem_cons_self ..) hs
structure Bxs {ι:Type} (Z H:KH) (D:ι->Prop) (nm:ι->Nat) (cs:ι->List Value):Prop where
 le:Le Z H
 fr:∀ i,D i->Z (nm i)=none
 ok:∀ i,D i->∃ e,H (nm i)=some e/\wrB e=true/\rd e.cells 0 (cs i).length=some (cs i)
 inj:∀ i j,D i->D j->nm i=nm j->i=j
section
variable {ι : Type} {Z H : KH} {D : ι -> Prop} {nm : ι -> Nat} {cs : ι -> List Value}
theorem Bxs.up {H':KH} (h:Bxs Z H D nm cs) (hl:Le H H'):Bxs Z H' D nm cs:=⟨h.le.trans hl,h.fr,fun i hi=>by
 obtain ⟨e,h1,h2⟩:=h.ok i hi
 exact ⟨e,hl _ _ h1,h2⟩,h.inj⟩
theorem Bxs.ld (h:Bxs Z H D nm cs) {j:ι} (hj:D j) {xs ys zs:List Value} (e:cs j=xs++ys++zs):ld H ⟨nm j,xs.length,none⟩ ys:=by
 obtain ⟨en,h1,h2,h3⟩:=h.ok j hj
 refine ⟨rfl,en,h1,?_⟩
 rw [e] at h3
 have r1:=rd_drop h3 (m:=xs.length) (by simp)
 have r2:=rd_take r1 (m:=ys.length) (by simp)
 rw [List.append_assoc,List.drop_left,List.take_left,Nat.zero_add] at r2
 exact r2
theorem Bxs.may (h:Bxs Z H D nm cs) {j:ι} (hj:D j):KH.may H (nm j):=by
 obtain ⟨e,h1,h2,_⟩:=h.ok j hj
 exact ⟨e,h1,h2⟩
theorem Bxs.kold (h:Bxs Z H D nm cs) {j:ι} (hj:D j) {sz n:Nat} (hn:(cs j).length=n*sz):kold H sz (some ⟨nm j,0,none⟩) n=some (cs j):=by
 obtain ⟨e,h1,h2,h3⟩:=h.ok j hj
 exact kold_some.2 ⟨e,h1,by rw [<- hn]; exact h3⟩
theorem Bxs.put (h:Bxs Z H D nm cs) {j:ι} (hj:D j) {xs ys zs vs:List Value} (e:cs j=xs++ys++zs) (hl:ys.length=vs.length) {cs':ι->List Value} (e':cs' j=xs++vs++zs) (hne:∀ i,D i->i≠j->cs' i=cs i):Bxs Z (H.put ⟨nm j,xs.length,none⟩ vs) D nm cs':=by
 refine ⟨le_put h.le (h.fr j hj),h.fr,fun i hi=>?_,h.inj⟩
 by_cases z:i=j
 .subst z
  obtain ⟨en,h1,h2,h3⟩:=h.ok i hi
  refine ⟨_,put_at h1,wrB_keep h2,?_⟩
  rw [e] at h3
  have hlen:(xs++vs++zs).length=(xs++ys++zs).length:=by simp [hl]
  rw [e',hlen]
  exact rdWr h3 rfl hl
 .obtain ⟨en,h1,h2,h3⟩:=h.ok i hi
  rw [hne i hi z]
  exact ⟨en,put_ne (fun w=>z (h.inj i j hi hj w)) h1,h2,h3⟩
end
def famC (h:Int->List Value) (N:Nat):List Value:=(List.range N).flatMap fun i:Nat=>h (i:Int)
section
variable {h h' : Int -> List Value} {k : Nat}
theorem fam_len (hf:∀ i,(h i).length=k) (N:Nat):(famC h N).length=N*k:=by
 unfold famC
 rw [fm_len (fun i=>hf _),List.length_range]
theorem fam_cut {N i:Nat} (hi:i<N):famC h N=famC h i++h (i:Int)++(List.range' (i+1) (N-i-1)).flatMap fun j:Nat=>h (j:Int):=by
 unfold famC
 have:List.range N=List.range i++[i]++List.range' (i+1) (N-i-1):=by
  rw [<- List.range_succ,List.range_eq_range',List.range_eq_range']
  have:=List.range'_append_1 (s:=0) (m:=i+1) (n:=N-i-1)
  rw [Nat.zero_add,show i+1+(N-i-1)=N by omega] at this
  exact this.symm
 rw [this,List.flatMap_append,List.flatMap_append]
 simp
theorem fam_congr {N:Nat} (e:∀ i:Nat,i<N->h i=h' i):famC h N=famC h' N:=by
 unfold famC
 induction N with
 | zero=>rfl
 | succ n ih =>
   rw [List.range_succ,List.flatMap_append,List.flatMap_append,ih (fun i hi=>e i (by omega))]
   simp [e n (by omega)]
theorem fam_set {N i:Nat} (hi:i<N) (e:∀ j:Nat,j≠i->h' j=h j):famC h' N=famC h i++h' (i:Int)++(List.range' (i+1) (N-i-1)).flatMap fun j:Nat=>h (j:Int):=by
 rw [fam_cut hi,fam_congr (h:=h') (h':=h) (N:=i) fun j hj=>e j (by omega)]
 congr 1
 have:∀ n s,i<s->(List.range' s n).flatMap (fun j:Nat=>h' (j:Int))=(List.range' s n).flatMap fun j:Nat=>h (j:Int):=by
  intro n
  induction n with
  | zero=>intro s _; rfl
  | succ n ih=>intro s hs; rw [List.range'_succ,List.flatMap_cons,List.flatMap_cons,e s (by omega),ih (s+1) (by omega)]
 exact this _ _ (by omega)
theorem fam_rep {N:Nat} {z:List Value} (e:∀ i:Nat,i<N->h i=z):lrep z N=famC h N:=by
 rw [fam_congr (h':=fun _=>z) e]
 unfold famC
 clear e
 induction N with
 | zero=>rfl
 | succ n ih =>
   rw [List.range_succ,List.flatMap_append,<- ih]
   simp only [List.flatMap_cons,List.flatMap_nil,List.append_nil]
   clear ih
   induction n with
   | zero=>simp [lrep]
   | succ n ih=>show z++lrep z (n+1)=(z++lrep z n)++z; rw [ih,List.append_assoc]
theorem fam_ld (hf:∀ i,(h i).length=k) {H:KH} {a:OA} {N i:Nat} (hk:kold H k a N=some (famC h N)) (hi:i<N):∃ b o,a=some ⟨b,o,none⟩/\ld H ⟨b,o+i*k,none⟩ (h (i:Int)):=by
 have:=it_ld (l:=List.range N) (f:=fun i:Nat=>h (i:Int)) (k:=k) (fun i=>hf _) (H:=H) (a:=a) (by rw [List.length_range]; exact hk) (i:=i) (by rw [List.length_range]; exact hi)
 rw [List.getElem_range] at this
 exact this
end
def bit1 (f:Int->Bool) (i:Int):List Value:=[.bool (f i)]
theorem bit1_len (f:Int->Bool) (i:Int):(bit1 f i).length=1:=rfl
def kC (f:Int->Bool):List Value:=[.bool (f 0),.bool (f 1),.bool (f 2),.bool (f 3),.bool (f 4),.bool (f 5),.bool (f 6),.bool (f 7),.bool (f 8)]
theorem kC_len (f:Int->Bool):(kC f).length=9:=rfl
def In9 (f:Int->Bool):Prop:=∀ t,f t=true->0<=t/\t<9
theorem in9_cases {t:Int} (h0:0<=t) (h1:t<9):t=0\/t=1\/t=2\/t=3\/t=4\/t=5\/t=6\/t=7\/t=8:=by omega
def InN (N:Nat) (X:Int->Int->Bool) (k:Nat):Prop:=∀ i t,X i t=true->(0<=i/\i<N)/\0<=t/\t<k
def Up (X:Int->Int->Bool) (i:Int) (f:Int->Bool) (j t:Int):Bool:=X j t||(decide (j=i)&&f t)
structure Stp (X0 X:Int->Int->Bool) (b:Bool):Prop where
 le:∀ i t,X0 i t=true->X i t=true
 no:b=false->X=X0
 yes:b=true->∃ i t,X i t=true/\X0 i t=false
theorem Stp.refl (X:Int->Int->Bool):Stp X X false:=⟨fun _ _ h=>h,fun _=>rfl,fun h=>by cases h⟩
theorem up_in {N k:Nat} {X:Int->Int->Bool} {i:Int} {f:Int->Bool} (h:InN N X k) (hi:0<=i/\i<N) (hf:∀ t,f t=true->0<=t/\t<k):InN N (Up X i f) k:=fun j t q=>by
 simp only [Up,Bool.or_eq_true,Bool.and_eq_true,decide_eq_true_eq] at q
 rcases q with q | ⟨rfl,q⟩
 .exact h j t q
 .exact ⟨hi,hf t q⟩
theorem Stp.add {X0 X:Int->Int->Bool} {b b':Bool} {i:Int} {f:Int->Bool} (h:Stp X0 X b) (h1:b'=true->b=true\/∃ t,f t=true/\X i t=false) (h2:b'=false->b=false/\∀ t,f t=true->X i t=true):Stp X0 (Up X i f) b':=by
 refine ⟨fun j t q=>?_,fun q=>?_,fun q=>?_⟩
 .simp only [Up,h.le j t q,Bool.true_or]
 .obtain ⟨q1,q2⟩:=h2 q
  rw [<- h.no q1]
  funext j t
  simp only [Up]
  cases hx:X j t
  .cases hd:decide (j=i)
   .rfl
   .cases hf:f t
    .rfl
    .have:=of_decide_eq_true hd
     rw [this,q2 t hf] at hx; cases hx
  .rfl
 .rcases h1 q with q | ⟨t,q1,q2⟩
  .obtain ⟨j,t,q1,q2⟩:=h.yes q
   exact ⟨j,t,by simp only [Up,q1,Bool.true_or],q2⟩
  .refine ⟨i,t,by simp [Up,q1],?_⟩
   cases e:X0 i t
   .rfl
   .rw [h.le i t e] at q2; cases q2
def miss (N k:Nat) (X:Int->Int->Bool):Nat:=((List.range N).map fun i:Nat=>((List.range k).filter fun t:Nat=>!X (i:Int) (t:Int)).length).sum
theorem Stp.miss {N k:Nat} {X0 X:Int->Int->Bool} (h:Stp X0 X true) (hi:InN N X k):miss N k X<miss N k X0:=by
 obtain ⟨i,t,q1,q2⟩:=h.yes rfl
 obtain ⟨⟨a1,a2⟩,b1,b2⟩:=hi i t q1
 have fl:∀ {p q:Nat->Bool} (l:List Nat),(∀ x,p x=true->q x=true)->(l.filter p).length<=(l.filter q).length:=by
  intro p q l hpq
  induction l with
  | nil=>exact Nat.le_refl _
  | cons x l ih =>
    cases hp:p x<;>cases hq:q x<;>simp only [List.filter_cons,hp,hq,if_true,if_false,Bool.false_eq_true,List.length_cons]<;>first | omega | (rw [hpq x hp] at hq; cases hq)
 have fs:∀ {p q:Nat->Bool} (l:List Nat),(∀ x,p x=true->q x=true)->(∃ x∈l,q x=true/\p x=false)->(l.filter p).length<(l.filter q).length:=by
  intro p q l hpq
  induction l with
  | nil=>rintro ⟨x,hx,_⟩; cases hx
  | cons x l ih =>
    rintro ⟨y,hy,hq,hp⟩
    have:=fl l hpq
    rcases List.mem_cons.1 hy with rfl | hy
    .simp only [List.filter_cons,hq,hp,if_true,Bool.false_eq_true,if_false,List.length_cons]; omega
    .have:=ih ⟨y,hy,hq,hp⟩
     cases hp:p x<;>cases hq:q x<;>simp only [List.filter_cons,hp,hq,if_true,if_false,Bool.false_eq_true,List.length_cons]<;>first | omega | (rw [hpq x hp] at hq; cases hq)
 have sl:∀ {p q:Nat->Nat} (l:List Nat),(∀ x,p x<=q x)->(l.map p).sum<=(l.map q).sum:=by
  intro p q l hpq
  induction l with
  | nil=>exact Nat.le_refl _
  | cons x l ih=>simp only [List.map_cons,List.sum_cons]; have:=hpq x; omega
 have ss:∀ {p q:Nat->Nat} (l:List Nat),(∀ x,p x<=q x)->(∃ x∈l,p x<q x)->(l.map p).sum<(l.map q).sum:=by
  intro p q l hpq
  induction l with
  | nil=>rintro ⟨x,hx,_⟩; cases hx
  | cons x l ih =>
    rintro ⟨y,hy,hq⟩
    have:=sl l hpq
    simp only [List.map_cons,List.sum_cons]
    rcases List.mem_cons.1 hy with rfl | hy
    .omega
    .have:=ih ⟨y,hy,hq⟩
     have:=hpq x; omega
 have mono:∀ (j:Nat) (s:Nat),(!X (j:Int) (s:Int))=true->(!X0 (j:Int) (s:Int))=true:=fun j s w=>by
  cases e:X0 (j:Int) (s:Int)
  .rfl
  .rw [h.le _ _ e] at w; cases w
 refine ss (List.range N) (fun j=>fl _ (mono j)) ⟨i.toNat,List.mem_range.2 (by omega),fs _ (mono _) ⟨t.toNat,List.mem_range.2 (by omega),?_,?_⟩⟩
 .have e1:((i.toNat:Nat):Int)=i:=by omega
  have e2:((t.toNat:Nat):Int)=t:=by omega
  rw [e1,e2,q2]; rfl
 .have e1:((i.toNat:Nat):Int)=i:=by omega
  have e2:((t.toNat:Nat):Int)=t:=by omega
  rw [e1,e2,q1]; rfl
structure Nd where
 id:Int
 prod:Int
 kind:Int
 text:ByteArray
 ka:OA
 kn:Nat
 kc:Nat
structure Lf where
 kind:Int
 text:ByteArray
def ndC (l:List Nd):List Value:=l.flatMap fun x=>[.int .i64 x.id,.int .i64 x.prod,.int .i64 x.kind,.string x.text,.slice x.ka x.kn x.kc]
def lfC (l:List Lf):List Value:=l.flatMap fun x=>[.int .i64 x.kind,.string x.text]
theorem ndC_len (l:List Nd):(ndC l).length=l.length*5:=fm_len (k:=5) (fun _=>rfl) l
theorem ndC_app (l m:List Nd):ndC (l++m)=ndC l++ndC m:=List.flatMap_append
theorem lfC_len (l:List Lf):(lfC l).length=l.length*2:=fm_len (k:=2) (fun _=>rfl) l
theorem lfC_app (l m:List Lf):lfC (l++m)=lfC l++lfC m:=List.flatMap_append
theorem nd_ld {H:KH} {a:OA} {l:List Nd} {i:Nat} (h:kold H 5 a l.length=some (ndC l)) (hi:i<l.length):∃ b o,a=some ⟨b,o,none⟩/\ld H ⟨b,o+i*5,none⟩ [.int .i64 l[i].id,.int .i64 l[i].prod,.int .i64 l[i].kind,.string l[i].text,.slice l[i].ka l[i].kn l[i].kc]:=it_ld (k:=5) (f:=fun x:Nd=>[.int .i64 x.id,.int .i64 x.prod,.int .i64 x.kind,.string x.text,.slice x.ka x.kn x.kc]) (fun _=>rfl) h hi
theorem lf_ld {H:KH} {a:OA} {l:List Lf} {i:Nat} (h:kold H 2 a l.length=some (lfC l)) (hi:i<l.length):∃ b o,a=some ⟨b,o,none⟩/\ld H ⟨b,o+i*2,none⟩ [.int .i64 l[i].kind,.string l[i].text]:=it_ld (k:=2) (f:=fun x:Lf=>[.int .i64 x.kind,.string x.text]) (fun _=>rfl) h hi
def lvs:List Nd->List Lf
 | []=>[]
 | n :: l=>if n.prod<0 then ⟨n.kind,n.text⟩ :: lvs l else lvs l
theorem lvs_app:∀ l m:List Nd,lvs (l++m)=lvs l++lvs m
 | [],_=>rfl
 | n :: l,m=>by
   show (if n.prod<0 then _ else _)=_
   rw [lvs]
   split<;>simp [lvs_app l m]
theorem lvs_len:∀ l:List Nd,(lvs l).length<=l.length
 | []=>Nat.le_refl _
 | n :: l=>by
   have:=lvs_len l
   rw [lvs]
   split<;>simp only [List.length_cons]<;>omega
inductive Fo (G:List Pr):List Sy->List Nd->Prop where
 | nil:Fo G [] []
 | tok {s:Sy} {r:List Sy} {n:Nd} {w:List Nd} (h1:s.tok=true) (h2:n.prod<0) (h3:n.kind=s.pos) (h4:n.kn=0) (h:Fo G r w):Fo G (s :: r) (n :: w)
 | nt {s:Sy} {r:List Sy} {n:Nd} {v w:List Nd} {p:Pr} (h1:s.tok=false) (h2:0<=n.prod) (h3:G[n.prod.toNat]? = some p) (h4:p.left=s.pos) (h5:n.kn=p.right.length) (hv:Fo G p.right v) (h:Fo G r w):Fo G (s :: r) (n :: (v++w))
theorem Fo.app {G:List Pr} {r r':List Sy} {w w':List Nd} (h:Fo G r w) (h':Fo G r' w'):Fo G (r++r') (w++w'):=by
 induction h with
 | nil=>exact h'
 | tok h1 h2 h3 h4 h ih=>exact .tok h1 h2 h3 h4 ih
 | nt h1 h2 h3 h4 h5 hv h ih1 ih2 =>
   rw [List.cons_append,List.cons_append,List.append_assoc]
   exact .nt h1 h2 h3 h4 h5 hv ih2
def wk:Nat->List Nd->Nat
 | 0,_=>0
 | _+1,[]=>0
 | k+1,n :: l=>wk (k+n.kn) l+1
theorem wk_nil (k:Nat):wk k []=0:=by cases k<;>rfl
theorem wk_zero (l:List Nd):wk 0 l=0:=by cases l<;>rfl
theorem wk_le:∀ (k:Nat) (l:List Nd),wk k l<=l.length
 | k,[]=>by rw [wk_nil]; exact Nat.le_refl _
 | 0,n :: l=>by rw [wk_zero]; exact Nat.zero_le _
 | k+1,n :: l=>by have:=wk_le (k+n.kn) l; rw [wk,List.length_cons]; omega
theorem Fo.wk {G:List Pr} {r:List Sy} {w:List Nd} (h:Fo G r w):∀ (d:Nat) (c:List Nd),Ew.wk (r.length+d) (w++c)=w.length+Ew.wk d c:=by
 induction h with
 | nil=>intro d c; simp
 | tok h1 h2 h3 h4 h ih =>
   intro d c
   rw [List.length_cons,show ∀ a:Nat,a+1+d=(a+d)+1 from fun a=>by omega,List.cons_append,Ew.wk,h4]
   have:=ih d c
   simp only [Nat.add_zero,List.length_cons]
   omega
 | nt h1 h2 h3 h4 h5 hv h ih1 ih2 =>
   intro d c
   rw [List.length_cons,show ∀ a:Nat,a+1+d=(a+d)+1 from fun a=>by omega,List.cons_append,Ew.wk,h5,List.append_assoc,Nat.add_comm _ (List.length _),ih1,ih2,List.length_cons,List.length_append]
   omega
theorem Fo.fst {G:List Pr} {r:List Sy} {w:List Nd} (h:Fo G r w):(∀ x l,lvs w=x :: l->FstR G r x.kind)/\(lvs w=[]->NulR G r):=by
 induction h with
 | nil=>exact ⟨fun x l q=>(by cases q),fun _ s hs=>(by cases hs)⟩
 | tok h1 h2 h3 h4 h ih =>
   rename_i s r n w
   refine ⟨fun x l q=>?_,fun q=>?_⟩
   .rw [lvs,if_pos h2] at q
    cases q
    exact ⟨[],s,r,rfl,(fun x hx=>by cases hx),.inl ⟨h1,h3.symm⟩⟩
   .rw [lvs,if_pos h2] at q; cases q
 | nt h1 h2 h3 h4 h5 hv h ih1 ih2 =>
   rename_i s r n v w p
   have hp:p∈G:=List.mem_of_getElem? h3
   have e:lvs (n :: (v++w))=lvs v++lvs w:=by rw [lvs,if_neg (by omega),lvs_app]
   refine ⟨fun x l q=>?_,fun q=>?_⟩
   .rw [e] at q
    cases hl:lvs v with
    | nil =>
      rw [hl] at q
      have f:=ih2.1 x l q
      have z:Nul G s.pos:=by rw [<- h4]; exact NulR.left hp (ih1.2 hl)
      obtain ⟨u,s',t,e1,e2,e3⟩:=f
      refine ⟨s :: u,s',t,by rw [e1]; rfl,fun y hy=>?_,e3⟩
      rcases List.mem_cons.1 hy with rfl | hy
      .exact ⟨h1,z⟩
      .exact e2 y hy
    | cons y m =>
      rw [hl] at q
      cases q
      have f:=ih1.1 _ _ hl
      refine ⟨[],s,r,rfl,(fun x hx=>by cases hx),.inr ⟨h1,?_⟩⟩
      rw [<- h4]; exact FstR.left hp f
   .rw [e] at q
    have q1:=List.append_eq_nil_iff.1 q
    have z:Nul G s.pos:=by rw [<- h4]; exact NulR.left hp (ih1.2 q1.1)
    intro y hy
    rcases List.mem_cons.1 hy with rfl | hy
    .exact ⟨h1,z⟩
    .exact ih2.2 q1.2 y hy
def FolAt (G:List Pr) (M:Int) (r:List Sy) (E:Int->Prop):Prop:=∀ u s v,r=u++s :: v->s.tok=false->(∀ t,FstR G v t->Flw G M s.pos t)/\(NulR G v->∀ t,E t->Flw G M s.pos t)
theorem FolAt.tail {G:List Pr} {M:Int} {r:List Sy} {s:Sy} {E:Int->Prop} (h:FolAt G M (s :: r) E):FolAt G M r E:=fun u x v e=>h (s :: u) x v (by rw [e]; rfl)
theorem FolAt.of {G:List Pr} {M:Int} {p:Pr} (hp:p∈G):FolAt G M p.right (Flw G M p.left):=fun u s v e hs=>⟨fun t ht=>.fst p hp u v s t e hs ht,fun hn t ht=>.nul p hp u v s t e hs hn ht⟩
theorem Fo.at_ {G:List Pr} {M:Int} {r:List Sy} {w:List Nd} (h:Fo G r w):∀ (E:Int->Prop),FolAt G M r E->∀ a n b,w=a++n :: b->0<=n.prod->∃ p v c,b=v++c/\G[n.prod.toNat]? = some p/\n.kn=p.right.length/\Fo G p.right v/\(∀ x l,lvs c=x :: l->Flw G M p.left x.kind)/\(lvs c=[]->∀ t,E t->Flw G M p.left t):=by
 induction h with
 | nil=>intro E hE a n b e; simp at e
 | tok h1 h2 h3 h4 h ih =>
   intro E hE a n b e hn
   cases a with
   | nil=>rw [List.nil_append] at e; cases e; omega
   | cons y a =>
     rw [List.cons_append] at e
     cases e
     exact ih E hE.tail a n b rfl hn
 | nt h1 h2 h3 h4 h5 hv h ih1 ih2 =>
   rename_i s r nd v w p
   intro E hE a n b e hn
   have hp:p∈G:=List.mem_of_getElem? h3
   have st:(∀ x l,lvs w=x :: l->Flw G M p.left x.kind)/\(lvs w=[]->∀ t,E t->Flw G M p.left t):=by
    obtain ⟨f1,f2⟩:=hE [] s r rfl h1
    obtain ⟨g1,g2⟩:=Fo.fst h
    rw [h4]
    exact ⟨fun x l q=>f1 _ (g1 x l q),fun q t ht=>f2 (g2 q) t ht⟩
   cases a with
   | nil =>
     rw [List.nil_append] at e
     cases e
     exact ⟨p,v,w,rfl,h3,h5,hv,st.1,st.2⟩
   | cons y a =>
     rw [List.cons_append] at e
     have e1:v++w=a++n :: b:=(List.cons.inj e).2
     rcases List.append_eq_append_iff.1 e1 with ⟨c,e2,e3⟩ | ⟨c,e2,e3⟩
     .exact ih2 E hE.tail c n b e3 hn
     .cases c with
      | nil =>
        rw [List.nil_append] at e3
        exact ih2 E hE.tail [] n b e3.symm hn
      | cons z c =>
        rw [List.cons_append] at e3
        have e4:=List.cons.inj e3
        obtain ⟨q,v',c',e5,e6,e7,e8,e9,e10⟩:=ih1 (Flw G M p.left) (FolAt.of hp) a n c (by rw [e2,e4.1]) hn
        refine ⟨q,v',c'++w,by rw [e4.2,e5,List.append_assoc],e6,e7,e8,fun x l ql=>?_,fun ql t ht=>?_⟩
        .rw [lvs_app] at ql
         cases hl:lvs c' with
         | nil=>rw [hl] at ql; exact e10 hl _ (st.1 x l ql)
         | cons x' l'=>rw [hl] at ql; cases ql; exact e9 _ _ hl
        .rw [lvs_app] at ql
         have ql:=List.append_eq_nil_iff.1 ql
         exact e10 ql.1 t (st.2 ql.2 t ht)
theorem FolAt.top (G:List Pr) (M:Int):FolAt G M [⟨false,0⟩] fun t=>t=M:=fun u s v e hs=>by
 cases u with
 | nil =>
   rw [List.nil_append] at e
   cases e
   refine ⟨fun t ⟨u,s,v,e,_⟩=>by simp at e,fun _ t ht=>?_⟩
   rw [ht]; exact .zero
 | cons y u=>simp at e
structure PkB (Z:KH) (a:OA) (n:Nat):Prop where
 b:∀ i,i<n->∃ b o x,a=some ⟨b,o,none⟩/\ld Z ⟨b,o+i,none⟩ [.int .u8 x]/\0<=x/\x<=255
 n:n<=150
theorem PkB.up {Z Z':KH} {a:OA} {n:Nat} (h:PkB Z a n) (hl:Le Z Z'):PkB Z' a n:=⟨fun i hi=>by
 obtain ⟨b,o,x,h1,h2,h3⟩:=h.b i hi
 exact ⟨b,o,x,h1,hl.ld h2,h3⟩,h.n⟩
structure PkE (H:KH) (p:Nat) (a:OA) (n c:Nat):Prop where
 ex:∃ e x,H p=some e/\wrB e=true/\rd e.cells 0 2=some [.slice a n c,.int .i64 x]/\0<=x/\x<=n
theorem PkE.up {H H':KH} {p n c:Nat} {a:OA} (h:PkE H p a n c) (hl:∀ e,H p=some e->H' p=some e):PkE H' p a n c:=by
 obtain ⟨e,x,h1,h2⟩:=h.ex
 exact ⟨e,x,hl e h1,h2⟩
structure St (Z H:KH) (p:Nat) (a:OA) (n c:Nat) (R:List Rr):Prop where
 r:Rws Z H p R
 e:PkE H p a n c
section
variable {Z H : KH} {p n c : Nat} {a : OA} {R : List Rr}
theorem St.ne (h:St Z H p a n c R) {nm:Nat} (hn:H nm=none):nm≠p:=fun z=>by
 obtain ⟨e,x,h1,_⟩:=h.e.ex
 rw [z,h1] at hn; cases hn
theorem St.new (h:St Z H p a n c R) {nm:Nat} {E:Ent} (hn:H nm=none):St Z (H.new nm E) p a n c R:=⟨h.r.step fun k e _ q=>Le.new hn k e q,h.e.up fun e q=>Le.new hn p e q⟩
theorem St.perm (h:St Z H p a n c R) {R':List Rr} (q:R.Perm R'):St Z H p a n c R':=⟨h.r.perm q,h.e⟩
theorem St.none_ {sz:Nat} (h:St Z H p a n c R):St Z H p a n c (⟨sz,none,0,0,[]⟩ :: R):=⟨h.r.none_,h.e⟩
theorem St.tail {r:Rr} (h:St Z H p a n c (r :: R)):St Z H p a n c R:=⟨h.r.tail,h.e⟩
theorem St.app {r:Rr} {nm m:Nat} {ti:TI} {new:List Value} (h:St Z H p a n c (r :: R)) (hn:H nm=none) (hsz:r.sz=ti.size) (hm:new.length=m*ti.size) (hs:r.n+m<=1000000) (hb:ti.bytes<=1000000) (hz:1<=ti.size) (hro:ti.size<=1000000:=by decide) :
 ∃ a' c' H',kappend H nm ti r.a r.n r.c m new=some (.slice a' (r.n+m) c',H')/\St Z H' p a n c (⟨r.sz,a',r.n+m,c',r.cs++new⟩ :: R):=by
 obtain ⟨a',c',H',f1,f2,f3,f4⟩:=h.r.app (ti:=ti) (nm:=nm) (m:=m) (new:=new) hn (h.ne hn) hsz hm hs hb hz hro
 exact ⟨a',c',H',f1,f2,h.e.up f3⟩
theorem St.grow (h:St Z H p a n c R) {nm:Nat} {E:Ent} (hn:H nm=none):St (Z.new nm E) (H.new nm E) p a n c R/\Le Z (Z.new nm E):=by
 have hz:Z nm=none:=h.r.le.none hn
 refine ⟨⟨(h.new hn).r.base h.r.le.new2 (new_none h.r.zp (fun z=>h.ne hn z.symm)) fun r q k z=>?_,(h.new hn).e⟩,Le.new hz⟩
 obtain ⟨e,q2⟩:=(h.r.ok r q).has z
 exact new_none (h.r.fr r q k z).1 fun w=>by rw [w,hn] at q2; cases q2
theorem St.freeze {r:Rr} (h:St Z H p a n c (r :: R)):∃ Z',Le Z Z'/\St Z' H p a n c R/\kold Z' r.sz r.a r.n=some r.cs:=by
 have g:=h.r.head
 have hd:=List.pairwise_cons.1 h.r.dj
 cases hb:blk r.a with
 | none =>
   exact ⟨Z,Le.refl Z,h.tail,(g.agree (H':=Z) fun k e w _=>by rw [hb] at w; cases w).row⟩
 | some b =>
   obtain ⟨e,he⟩:=g.has hb
   have hf:=h.r.fr r (List.mem_cons_self ..) b hb
   have hle:Le (Z.new b e) H:=fun k e' q=>by
    simp only [KH.new] at q
    by_cases z:k=b
    .rw [if_pos z] at q; cases q; rw [z]; exact he
    .rw [if_neg z] at q; exact h.r.le k e' q
   refine ⟨Z.new b e,Le.new hf.1,⟨h.tail.r.base hle (new_none h.r.zp fun z=>hf.2 z.symm) fun s q k z=>new_none (h.r.fr s (List.mem_cons_of_mem _ q) k z).1 fun w=>hd.1 s q b hb (by rw [<- w]; exact z),h.e⟩,?_⟩
   refine (g.agree (H':=Z.new b e) fun k e' w q=>?_).row
   rw [hb] at w
   cases w
   rw [he] at q
   cases q
   exact if_pos rfl
theorem St.freezeG {r:Rr} (h:St Z H p a n c (r :: R)):∃ Z',Le Z Z'/\St Z' H p a n c R/\Gs Z' r.sz r.a r.n r.c r.cs:=by
 have g:=h.r.head
 have hd:=List.pairwise_cons.1 h.r.dj
 cases hb:blk r.a with
 | none =>
   exact ⟨Z,Le.refl Z,h.tail,g.agree (H':=Z) fun k e w _=>by rw [hb] at w; cases w⟩
 | some b =>
   obtain ⟨e,he⟩:=g.has hb
   have hf:=h.r.fr r (List.mem_cons_self ..) b hb
   have hle:Le (Z.new b e) H:=fun k e' q=>by
    simp only [KH.new] at q
    by_cases z:k=b
    .rw [if_pos z] at q; cases q; rw [z]; exact he
    .rw [if_neg z] at q; exact h.r.le k e' q
   refine ⟨Z.new b e,Le.new hf.1,⟨h.tail.r.base hle (new_none h.r.zp fun z=>hf.2 z.symm) fun s q k z=>new_none (h.r.fr s (List.mem_cons_of_mem _ q) k z).1 fun w=>hd.1 s q b hb (by rw [<- w]; exact z),h.e⟩,?_⟩
   refine g.agree (H':=Z.new b e) fun k e' w q=>?_
   rw [hb] at w
   cases w
   rw [he] at q
   cases q
   exact if_pos rfl
theorem St.enter (h:St Z H p a n c R):St (H.del p) H p a n c []/\Le Z (H.del p):=⟨⟨.nil (del_le H p) (if_pos rfl),h.e⟩,fun k e q=>del_at (h.r.le k e q) fun z=>by rw [z,h.r.zp] at q; cases q⟩
theorem St.leave {H':KH} (h:St Z H p a n c R) (h':St (H.del p) H' p a n c []):St Z H' p a n c R:=⟨h.r.step fun k e z q=>h'.r.le k e (del_at q z),h'.e⟩
end
theorem hide_new {H:KH} {n:Nat} {e:Ent} (h:H n=none):hideK (H.new n e) [n]=H:=new_del h
theorem new_self {H:KH} {n:Nat} {e:Ent}:(H.new n e) n=some e:=if_pos rfl
theorem len_of {α:Type} {f:α->List Value} {k n:Nat} (hf:∀ x,(f x).length=k) (hk:0<k) {H:KH} {a:OA} {l:List α} (h:kold H k a n=some (l.flatMap f)):n=l.length:=by
 have h1:=kold_len h
 rw [fm_len hf] at h1
 exact (Nat.eq_of_mul_eq_mul_right hk h1).symm
structure Ps (Z H:KH) (p:Nat) (cs:List Value) (R:List Rr):Prop where
 r:Rws Z H p R
 e:∃ e,H p=some e/\wrB e=true/\rd e.cells 0 cs.length=some cs
section
variable {Z H : KH} {p : Nat} {cs : List Value} {R : List Rr}
theorem Ps.ne (h:Ps Z H p cs R) {nm:Nat} (hn:H nm=none):nm≠p:=fun z=>by
 obtain ⟨e,h1,_⟩:=h.e
 rw [z,h1] at hn; cases hn
theorem Ps.up {H':KH} (h:Ps Z H p cs R) (hl:Le H H'):Ps Z H' p cs R:=⟨h.r.step fun k e _ q=>hl k e q,by
 obtain ⟨e,h1,h2⟩:=h.e
 exact ⟨e,hl _ _ h1,h2⟩⟩
theorem Ps.new (h:Ps Z H p cs R) {nm:Nat} {E:Ent} (hn:H nm=none):Ps Z (H.new nm E) p cs R:=h.up (Le.new hn)
theorem Ps.perm (h:Ps Z H p cs R) {R':List Rr} (q:R.Perm R'):Ps Z H p cs R':=⟨h.r.perm q,h.e⟩
theorem Ps.none_ {sz:Nat} (h:Ps Z H p cs R):Ps Z H p cs (⟨sz,none,0,0,[]⟩ :: R):=⟨h.r.none_,h.e⟩
theorem Ps.tail {r:Rr} (h:Ps Z H p cs (r :: R)):Ps Z H p cs R:=⟨h.r.tail,h.e⟩
theorem Ps.may (h:Ps Z H p cs R):KH.may H p:=by
 obtain ⟨e,h1,h2,_⟩:=h.e
 exact ⟨e,h1,h2⟩
theorem Ps.ld (h:Ps Z H p cs R) {k:Nat} {v:Value} (hk:cs[k]? = some v):ld H ⟨p,k,none⟩ [v]:=by
 obtain ⟨e,h1,_,h3⟩:=h.e
 obtain ⟨hl,hv⟩:=List.getElem?_eq_some_iff.1 hk
 have f:Ew.ld H ⟨p,0,none⟩ cs:=⟨rfl,e,h1,h3⟩
 have:=ldSub (m:=1) f k (by omega)
 rw [Nat.zero_add,List.drop_eq_getElem_cons hl,hv] at this
 exact this
theorem Ps.ldn (h:Ps Z H p cs R) (k m:Nat) (hm:k+m<=cs.length):Ew.ld H ⟨p,k,none⟩ ((cs.drop k).take m):=by
 obtain ⟨e,h1,_,h3⟩:=h.e
 have f:Ew.ld H ⟨p,0,none⟩ cs:=⟨rfl,e,h1,h3⟩
 have:=ldSub (m:=m) f k hm
 rw [Nat.zero_add] at this
 exact this
theorem Ps.put (h:Ps Z H p cs R) {k:Nat} {v:Value} (hk:k<cs.length):Ps Z (H.put ⟨p,k,none⟩ [v]) p (cs.set k v) R:=by
 refine ⟨h.r.step fun q e hq w=>put_ne hq w,?_⟩
 obtain ⟨e,h1,h2,h3⟩:=h.e
 refine ⟨_,put_at h1,wrB_keep h2,?_⟩
 have e1:cs=cs.take k++[cs[k]]++cs.drop (k+1):=by rw [List.append_assoc,List.singleton_append,<- List.drop_eq_getElem_cons hk,List.take_append_drop]
 have e2:cs.set k v=cs.take k++[v]++cs.drop (k+1):=by rw [List.set_eq_take_append_cons_drop,if_pos hk]; simp
 rw [List.length_set]
 have hl:(cs.take k).length=k:=by rw [List.length_take]; omega
 generalize hx:cs.take k=x at e1 e2 hl
 generalize hy:cs.drop (k+1)=y at e1 e2
 generalize hz:cs[k]=z at e1
 rw [e2,<- hl]
 have e3:cs.length=(x++[z]++y).length:=by rw [<- e1]
 rw [e3]
 rw [e1] at h3
 exact rdWr h3 rfl rfl
theorem Ps.app {r:Rr} {nm m:Nat} {ti:TI} {new:List Value} (h:Ps Z H p cs (r :: R)) (hn:H nm=none) (hsz:r.sz=ti.size) (hm:new.length=m*ti.size) (hs:r.n+m<=1000000) (hb:ti.bytes<=1000000) (hz:1<=ti.size) (hro:ti.size<=1000000:=by decide) :
 ∃ a' c' H',kappend H nm ti r.a r.n r.c m new=some (.slice a' (r.n+m) c',H')/\Ps Z H' p cs (⟨r.sz,a',r.n+m,c',r.cs++new⟩ :: R):=by
 obtain ⟨a',c',H',f1,f2,f3,f4⟩:=h.r.app (ti:=ti) (nm:=nm) (m:=m) (new:=new) hn (h.ne hn) hsz hm hs hb hz hro
 obtain ⟨e,h1,h2⟩:=h.e
 exact ⟨a',c',H',f1,f2,e,f3 e h1,h2⟩
theorem Ps.write {sz n c:Nat} {a:OA} {xs ys zs vs:List Value} (h:Ps Z H p cs (⟨sz,a,n,c,xs++ys++zs⟩ :: R)) (hy:ys.length=vs.length) (h0:0<(xs++ys++zs).length):∃ b o,a=some ⟨b,o,none⟩/\Ew.ld H ⟨b,o+xs.length,none⟩ ys/\KH.may H b/\Ps Z (H.put ⟨b,o+xs.length,none⟩ vs) p cs (⟨sz,a,n,c,xs++vs++zs⟩ :: R):=by
 obtain ⟨b,o,e,f1,f2,f3,f4,f5⟩:=h.r.write hy h0
 obtain ⟨en,h1,h2⟩:=h.e
 exact ⟨b,o,e,f1,f2,f3,en,put_ne (fun z=>f4 z.symm) h1,h2⟩
end
theorem St.leaveR {Z H H':KH} {p n c:Nat} {a:OA} {R R':List Rr} (h:St Z H p a n c R) (h':St (H.del p) H' p a n c R'):St Z H' p a n c (R'++R):=by
 have st:∀ k e,k≠p->H k=some e->H' k=some e:=fun k e z q=>h'.r.le k e (del_at q z)
 have r:=h.r.step st
 refine ⟨⟨r.le,r.zp,fun x hx=>?_,fun x hx k hk=>?_,?_⟩,h'.e⟩
 .rcases List.mem_append.1 hx with hx | hx
  .exact h'.r.ok x hx
  .exact r.ok x hx
 .rcases List.mem_append.1 hx with hx | hx
  .obtain ⟨f1,f2⟩:=h'.r.fr x hx k hk
   refine ⟨?_,f2⟩
   have:H k=none:=by
    simp only [KH.del] at f1
    rw [if_neg f2] at f1
    exact f1
   exact h.r.le.none this
  .exact r.fr x hx k hk
 .refine List.pairwise_append.2 ⟨h'.r.dj,r.dj,fun x hx y hy k hk hk'=>?_⟩
  obtain ⟨f1,f2⟩:=h'.r.fr x hx k hk
  obtain ⟨e,he⟩:=(h.r.ok y hy).has hk'
  simp only [KH.del] at f1
  rw [if_neg f2,he] at f1
  cases f1
structure Rwz (Z H:KH) (R:List Rr):Prop where
 le:Le Z H
 ok:∀ r∈R,Gs H r.sz r.a r.n r.c r.cs
 fr:∀ r∈R,∀ k,blk r.a=some k->Z k=none
 dj:R.Pairwise fun r s=>∀ k,blk r.a=some k->blk s.a≠some k
section
variable {Z H : KH} {R : List Rr}
theorem Rwz.nil (h:Le Z H):Rwz Z H []:=⟨h,fun _ q=>(by cases q),fun _ q=>(by cases q),.nil⟩
theorem Rwz.none_ {sz:Nat} (h:Rwz Z H R):Rwz Z H (⟨sz,none,0,0,[]⟩ :: R):=⟨h.le,fun r q=>by
 rcases List.mem_cons.1 q with rfl | q
 .exact .nil
 .exact h.ok r q,fun r q k z=>by
 rcases List.mem_cons.1 q with rfl | q
 .cases z
 .exact h.fr r q k z,.cons (fun _ _ k z=>by cases z) h.dj⟩
theorem Rwz.perm {R':List Rr} (h:Rwz Z H R) (q:R.Perm R'):Rwz Z H R' :=
 ⟨h.le,fun r z=>h.ok r (q.mem_iff.2 z),fun r z=>h.fr r (q.mem_iff.2 z),q.pairwise h.dj fun h k z w=>h k w z⟩
theorem Rwz.tail {r:Rr} (h:Rwz Z H (r :: R)):Rwz Z H R :=
 ⟨h.le,fun r z=>h.ok r (List.mem_cons_of_mem _ z),fun r z=>h.fr r (List.mem_cons_of_mem _ z),(List.pairwise_cons.1 h.dj).2⟩
theorem Rwz.head {r:Rr} (h:Rwz Z H (r :: R)):Gs H r.sz r.a r.n r.c r.cs:=h.ok r (List.mem_cons_self ..)
theorem Rwz.up {H':KH} (h:Rwz Z H R) (y:Le H H'):Rwz Z H' R :=
 ⟨h.le.trans y,fun r z=>(h.ok r z).agree fun k e w q=>y k e q,h.fr,h.dj⟩
theorem Rwz.new {nm:Nat} {E:Ent} (h:Rwz Z H R) (hn:H nm=none):Rwz Z (H.new nm E) R:=h.up (Le.new hn)
theorem Rwz.app {nm m:Nat} {r:Rr} {ti:TI} {new:List Value} (h:Rwz Z H (r :: R)) (hn:H nm=none) (hsz:r.sz=ti.size) (hm:new.length=m*ti.size) (hs:r.n+m<=1000000) (hb:ti.bytes<=1000000) (hz:1<=ti.size) (hro:ti.size<=1000000:=by decide) :
 ∃ a' c' H',kappend H nm ti r.a r.n r.c m new=some (.slice a' (r.n+m) c',H')/\Rwz Z H' (⟨r.sz,a',r.n+m,c',r.cs++new⟩ :: R):=by
 have g:=h.head
 have hd:=List.pairwise_cons.1 h.dj
 rw [hsz] at g
 obtain ⟨a',c',H',f1,f2,f3,f4⟩:=g.appends (ti:=ti) (nm:=nm) (new:=new) (m:=m) hn hm hs hb hz hro
 have hfr:=h.fr r (List.mem_cons_self ..)
 refine ⟨a',c',H',f1,⟨fun k e q=>f3 k e (h.le k e q) (fun z=>by rw [hfr k z] at q; cases q),fun s q=>?_,fun s q k z=>?_,.cons (fun s q k z w=>?_) hd.2⟩⟩
 .rcases List.mem_cons.1 q with rfl | q
  .rw [hsz]; exact f2
  .exact (h.ok s (List.mem_cons_of_mem _ q)).agree fun k e z w=>f3 k e w fun u=>hd.1 s q k u z
 .rcases List.mem_cons.1 q with rfl | q
  .rcases f4 k z with w | w
   .exact hfr k w
   .rw [w]; exact h.le.none hn
  .exact h.fr s (List.mem_cons_of_mem _ q) k z
 .rcases f4 k z with u | u
  .exact hd.1 s q k u w
  .obtain ⟨e,v⟩:=(h.ok s (List.mem_cons_of_mem _ q)).has w
   rw [u,hn] at v; cases v
theorem Rwz.freeze {r:Rr} (h:Rwz Z H (r :: R)):∃ Z',Le Z Z'/\Rwz Z' H R/\kold Z' r.sz r.a r.n=some r.cs:=by
 have g:=h.head
 have hd:=List.pairwise_cons.1 h.dj
 cases hb:blk r.a with
 | none =>
   exact ⟨Z,Le.refl Z,h.tail,(g.agree (H':=Z) fun k e w _=>by rw [hb] at w; cases w).row⟩
 | some b =>
   obtain ⟨e,he⟩:=g.has hb
   have hf:=h.fr r (List.mem_cons_self ..) b hb
   have hle:Le (Z.new b e) H:=fun k e' q=>by
    simp only [KH.new] at q
    by_cases z:k=b
    .rw [if_pos z] at q; cases q; rw [z]; exact he
    .rw [if_neg z] at q; exact h.le k e' q
   refine ⟨Z.new b e,Le.new hf,⟨hle,h.tail.ok,fun s q k z=>new_none (h.fr s (List.mem_cons_of_mem _ q) k z) fun w=>hd.1 s q b hb (by rw [<- w]; exact z),h.tail.dj⟩,?_⟩
   refine (g.agree (H':=Z.new b e) fun k e' w q=>?_).row
   rw [hb] at w
   cases w
   rw [he] at q
   cases q
   exact if_pos rfl
end
end Go.Ew
namespace Go.Ew
open Go.Ev Go.Deep
theorem lrepLen {α:Type} (z:List α):∀ n,(lrep z n).length=n*z.length
 | 0=>by simp [lrep]
 | n+1=>by simp [lrep,lrepLen z n,Nat.add_mul]; omega
def tiS:TI:=⟨1,16,false,4,0,0,[],[.string ⟨#[]⟩]⟩
def ntV (x:Nt):Value:=.agg #[.string x.name,.slice x.ia x.inh.length x.ic,.slice x.sa x.syn.length x.sc]
def prV (x:Pr):Value:=.agg #[.int .i64 x.left,.slice x.ra x.right.length x.rc,.slice x.ua x.un x.uc]
def syV (s:Sy):Value:=.agg #[.bool s.tok,.int .i64 s.pos]
structure Nr (X H:KH) (sz:Nat) (a:OA) (n c:Nat) (cs:List Value):Prop where
 le:Le X H
 g:Gs H sz a n c cs
 fr:∀ k,blk a=some k->X k=none
theorem Nr.nil {X H:KH} {sz:Nat} (h:Le X H):Nr X H sz none 0 0 []:=⟨h,.nil,fun k z=>(by cases z)⟩
theorem Nr.up {X H H':KH} {sz n c:Nat} {a:OA} {cs:List Value} (h:Nr X H sz a n c cs) (hl:Le H H'):Nr X H' sz a n c cs:=⟨h.le.trans hl,h.g.agree fun k e _ q=>hl k e q,h.fr⟩
theorem Nr.row {X H:KH} {sz n c:Nat} {a:OA} {cs:List Value} (h:Nr X H sz a n c cs):kold H sz a n=some cs:=h.g.row
theorem Nr.app {X H:KH} {ti:TI} {n c nm m:Nat} {a:OA} {cs new:List Value} (h:Nr X H ti.size a n c cs) (hn:H nm=none) (hm:new.length=m*ti.size) (hs:n+m<=1000000) (hb:ti.bytes<=1000000) (hz:1<=ti.size) (hro:ti.size<=1000000:=by decide) :
 ∃ a' c' H',kappend H nm ti a n c m new=some (.slice a' (n+m) c',H')/\Nr X H' ti.size a' (n+m) c' (cs++new)/\(∀ k e,H k=some e->blk a≠some k->H' k=some e):=by
 obtain ⟨a',c',H',f1,f2,f3,f4⟩:=h.g.appends (ti:=ti) (nm:=nm) (m:=m) (new:=new) hn hm hs hb hz hro
 refine ⟨a',c',H',f1,⟨fun k e q=>f3 k e (h.le k e q) (fun z=>by rw [h.fr k z] at q; cases q),f2,fun k z=>?_⟩,f3⟩
 rcases f4 k z with w | w
 .exact h.fr k w
 .rw [w]; exact h.le.none hn
end Go.Ew
namespace Go.Proofs.Ytefiipkfppaibaa
open Go.Ev Go.Ew
namespace Va
section
variable (ok : EnvOk (env Try.prog))
include ok
theorem c87 {a:OA} {c:Nat} {l:List ByteArray} {s:ByteArray} {H:KH} {Q:PQ} (hl:kold H 1 a l.length=some (sC l)) (hs:l.length<=1000000) (hq:∀ x:Int,(0<=x↔s∈l)->Q (.int .i64 x) H):Does (env Try.prog) 87 [.slice a l.length c,.string s] H Q:=by
 refine fn87 ok ?_
 show vc87_L1 _ _ _ _ _ _
 unfold vc87_L1
 refine ⟨fun k a4 n5 n6 s7 x8 x9 H10=>a4=a/\n5=l.length/\s7=s/\x8=l.length/\H10=H/\∃ i:Nat,x9=i/\i<=l.length/\k=l.length-i/\∀ j (hj:j<l.length),j<i->l[j]≠s,⟨_,rfl,rfl,rfl,rfl,rfl,0,rfl,by omega,rfl,fun j _ z=>absurd z (by omega)⟩,?_⟩
 rintro k a4 n5 n6 s7 x8 x9 H10 ⟨rfl,rfl,rfl,rfl,rfl,i,rfl,hi,rfl,hv⟩
 refine ⟨fun hlt=>?_,fun hge=>?_⟩
 .have hlt:i<l.length:=by have:=of_decide_eq_true hlt; omega
  have e0:Int.toNat ((i:Nat):Int)=i:=by omega
  have hi1:IntKind.wrap .i64 (((i:Nat):Int)+1)=((i+1:Nat):Int):=by rw [wrap64 (by omega) (by omega)]; omega
  obtain ⟨b0,o0,ha,r0⟩:=s_ld hl hlt
  rw [e0,hi1]
  refine ⟨⟨by omega,by omega⟩,b0,o0,ha,_,r0,fun hc=>?_,fun hc=>?_⟩
  .have:=strEq_iff.1 hc
   exact hq _ ⟨fun _=>by rw [this]; exact List.getElem_mem _,fun _=>by omega⟩
  .refine ⟨l.length-(i+1),by omega,rfl,rfl,rfl,rfl,rfl,i+1,rfl,by omega,rfl,fun j hj z=>?_⟩
   by_cases y:j=i
   .subst y
    intro w
    rw [w,strEq_iff.2 rfl] at hc; cases hc
   .exact hv j hj (by omega)
 .have hge:i=l.length:=by have:=of_decide_eq_false hge; omega
  subst hge
  refine hq _ ⟨fun z=>by omega,fun z=>?_⟩
  obtain ⟨j,hj,w⟩:=List.mem_iff_getElem.1 z
  exact absurd w (hv j hj hj)
theorem c84 {a:OA} {c:Nat} {l:List ByteArray} {s:ByteArray} {H:KH} {Q:PQ} (hl:kold H 1 a l.length=some (sC l)) (hs:l.length<=1000000) (hq:∀ b,(b=true↔s∈l)->Q (.bool b) H):Does (env Try.prog) 84 [.slice a l.length c,.string s] H Q :=
 fn84 ok (c87 ok hl hs fun x hx=>⟨x,rfl,hq _ (by rw [decide_eq_true_eq]; exact hx)⟩)
theorem c76 {a:OA} {c:Nat} {l:List ByteArray} {H:KH} {Q:PQ} (ho:SlOk H 1 a l.length c) (hl:kold H 1 a l.length=some (sC l)) (hs:l.length<=1000000) (hq:∀ b,(b=true↔∀ i (h:i<l.length) j (h2:j<i),l[i]≠l[j]'(by omega))->Q (.bool b) H):Does (env Try.prog) 76 [.slice a l.length c] H Q:=by
 refine fn76 ok ?_
 show vc76_L1 _ _ _ _ _
 unfold vc76_L1
 refine ⟨fun k a4 n5 n6 a7 n8 n9 x10 x11 H12=>a4=a/\n5=l.length/\n6=c/\a7=a/\n8=l.length/\x10=l.length/\H12=H/\∃ i:Nat,x11=i/\i<=l.length/\k=l.length-i/\∀ i' (h:i'<l.length) j (h2:j<i'),i'<i->l[i']≠l[j]'(by omega),⟨_,rfl,rfl,rfl,rfl,rfl,rfl,rfl,0,rfl,by omega,rfl,fun _ _ _ _ z=>absurd z (by omega)⟩,?_⟩
 rintro k a4 n5 n6 a7 n8 n9 x10 x11 H12 ⟨rfl,rfl,rfl,rfl,rfl,rfl,rfl,i,rfl,hi,rfl,hv⟩
 refine ⟨fun hlt=>?_,fun hge=>?_⟩
 .have hlt:i<l.length:=by have:=of_decide_eq_true hlt; omega
  have e0:Int.toNat ((i:Nat):Int)=i:=by omega
  have hi1:IntKind.wrap .i64 (((i:Nat):Int)+1)=((i+1:Nat):Int):=by rw [wrap64 (by omega) (by omega)]; omega
  obtain ⟨b0,o0,ha,r0⟩:=s_ld hl hlt
  obtain ⟨a',c',k1,k2⟩:=cut_lo (k:=i) ho hl (by omega)
  have e2:(l.take i).length=i:=by rw [List.length_take]; omega
  have k2:kold H12 1 a' (l.take i).length=some (sC (l.take i)):=by
   rw [e2,k2]; unfold sC; rw [(fm_cut (k:=1) (fun _=>rfl) l i).2]
  rw [e0,hi1]
  refine ⟨⟨by omega,by omega⟩,b0,o0,ha,_,r0,a',i,c',k1,?_⟩
  have hc58:=fun Q'=>c84 ok (c:=c') (s:=l[i]) (Q:=Q') k2 (by omega)
  rw [e2] at hc58
  refine hc58 _ fun b hb=>⟨b,rfl,fun z=>?_,fun z=>?_⟩
  .refine hq false ⟨fun y=>(by cases y),fun y=>?_⟩
   obtain ⟨j,hj,w⟩:=List.mem_iff_getElem.1 (hb.1 z)
   rw [List.getElem_take] at w
   exact absurd w.symm (y i hlt j (by omega))
  .refine ⟨l.length-(i+1),by omega,rfl,rfl,rfl,rfl,rfl,rfl,rfl,i+1,rfl,by omega,rfl,fun i' h1 j h2 h3 w=>?_⟩
   by_cases y:i'=i
   .subst y
    have:b=true:=hb.2 (List.mem_iff_getElem.2 ⟨j,by omega,by rw [List.getElem_take]; exact w.symm⟩)
    rw [z] at this; cases this
   .exact hv i' h1 j h2 (by omega) w
 .have hge:i=l.length:=by have:=of_decide_eq_false hge; omega
  subst hge
  exact hq true ⟨fun _ i' h1 j h2=>hv i' h1 j h2 h1,fun _=>rfl⟩
theorem c74 {a:OA} {c:Nat} {l:List ByteArray} {H:KH} {Q:PQ} (hl:kold H 1 a l.length=some (sC l)) (hs:l.length<=1000000) (hq:∀ b,(b=true↔∀ i (h:i<l.length),NameOk l[i])->Q (.bool b) H):Does (env Try.prog) 74 [.slice a l.length c,.func (.func 75) #[] #[]] H Q:=by
 refine fn74 ok ?_
 show vc74_L1 _ _ _ _ _ _
 unfold vc74_L1
 refine ⟨fun k n4 l5 a6 n7 n8 x9 x10 H11=>n4=75/\l5=[]/\a6=a/\n7=l.length/\x9=l.length/\H11=H/\∃ i:Nat,x10=i/\i<=l.length/\k=l.length-i/\∀ j (hj:j<l.length),j<i->NameOk l[j],⟨_,rfl,rfl,rfl,rfl,rfl,rfl,0,rfl,by omega,rfl,fun j _ z=>absurd z (by omega)⟩,?_⟩
 rintro k n4 l5 a6 n7 n8 x9 x10 H11 ⟨rfl,rfl,rfl,rfl,rfl,rfl,i,rfl,hi,rfl,hv⟩
 refine ⟨fun hlt=>?_,fun hge=>?_⟩
 .have hlt:i<l.length:=by have:=of_decide_eq_true hlt; omega
  have e0:Int.toNat ((i:Nat):Int)=i:=by omega
  have hi1:IntKind.wrap .i64 (((i:Nat):Int)+1)=((i+1:Nat):Int):=by rw [wrap64 (by omega) (by omega)]; omega
  obtain ⟨b0,o0,ha,r0⟩:=s_ld hl hlt
  rw [e0,hi1]
  refine ⟨⟨by omega,by omega⟩,b0,o0,ha,_,r0,c75 ok fun b hb=>⟨b,rfl,fun z=>?_,fun z=>?_⟩⟩
  .refine hq false ⟨fun y=>(by cases y),fun y=>?_⟩
   have:=hb.2 (y i hlt)
   rw [this] at z; cases z
  .have bt:b=true:=by cases b; cases z; rfl
   refine ⟨l.length-(i+1),by omega,rfl,rfl,rfl,rfl,rfl,rfl,i+1,rfl,by omega,rfl,fun j hj z=>?_⟩
   by_cases y:j=i
   .subst y; exact hb.1 bt
   .exact hv j hj (by omega)
 .have hge:i=l.length:=by have:=of_decide_eq_false hge; omega
  subst hge
  exact hq true ⟨fun _ j hj=>hv j hj hj,fun _=>rfl⟩
theorem c67 {a:OA} {c:Nat} {l:List ByteArray} {H:KH} {Q:PQ} (ho:SlOk H 1 a l.length c) (hl:kold H 1 a l.length=some (sC l)) (hs:l.length<=1000000) (hq:∀ b,(b=true↔NamesOk l)->Q (.bool b) H):Does (env Try.prog) 67 [.slice a l.length c] H Q:=by
 refine fn67 ok (c74 ok hl hs fun b hb=>⟨b,rfl,fun z=>c76 ok ho hl hs fun b2 h2=>⟨b2,rfl,hq b2 ⟨fun y=>⟨hb.1 z,h2.1 y⟩,fun y=>h2.2 y.b⟩⟩,fun z=>hq false ⟨fun y=>(by cases y),fun y=>?_⟩⟩)
 have:=hb.2 y.a
 rw [z] at this; cases this
theorem c85 {n:Nat} {H:KH} {Q:PQ} (hs:n<=1000) (hq:∀ a c H',Nr H H' 1 a 0 c []->Q (.slice a 0 c) H'):Does (env Try.prog) 85 [.slice none 0 0,.int .i64 ((n:Nat):Int)] H Q:=by
 refine fn85 ok ⟨fun z=>by have:=of_decide_eq_true z; omega,fun _=>⟨by decide,fun z=>?_,fun z=>hq none 0 H (.nil (Le.refl H))⟩⟩
 have e1:IntKind.wrap .i64 (((0:Nat):Int)-((0:Nat):Int))=0:=by decide
 have e2:IntKind.wrap .i64 (((n:Nat):Int)-0)=n:=by rw [wrap64 (by omega) (by omega)]; omega
 rw [e1,e2] at z ⊢
 refine ⟨by decide,none,0,0,rfl,fun nm hnm=>?_⟩
 have e3:Int.toNat ((n:Nat):Int)=n:=by omega
 have hk:knew H ⟨1,16,false,4,0,0,[],[.string ⟨#[]⟩]⟩ (.int .i64 ((n:Nat):Int))=some (n,lrep [.string ⟨#[]⟩] n):=by
  have h1:decide (0<=((n:Nat):Int))=true:=by simp
  have h2:decide (((n:Nat):Int)<=1000000)=true:=by rw [decide_eq_true_eq]; omega
  unfold knew
  simp only [h1,h2,Bool.and_self,cond_true,e3]
 obtain ⟨a',c',H',f1,f2,f3⟩:=(Nr.nil (sz:=tiS.size) (Le.refl H)).app (ti:=tiS) (nm:=nm) (m:=n) (new:=lrep [.string ⟨#[]⟩] n) hnm (by rw [lrepLen]; rfl) (by omega) (by decide) (by decide)
 rw [Nat.zero_add] at f1 f2
 refine ⟨_,_,hk,a',_,c',H',f1,?_⟩
 obtain ⟨g1,g2⟩:=f2.g.cut (m:=0) (by omega) (by decide)
 refine ⟨a',_,c',g1,hq a' c' H' ⟨f2.le,?_,f2.fr⟩⟩
 rw [Nat.zero_mul,List.take_zero] at g2
 exact g2
theorem c77 {b:Nat} {a a':OA} {c c':Nat} {l m:List ByteArray} {H:KH} {Q:PQ} (hb:H b=some (mkEnt [.slice a l.length c,.slice a' m.length c'] 0)) (hl:kold H 1 a l.length=some (sC l)) (hm:kold H 1 a' m.length=some (sC m)) (hs:l.length+m.length<=1000)
 (hq:∀ a2 c2 H',Nr H H' 1 a2 (l++m).length c2 (sC (l++m))->Q (.slice a2 (l++m).length c2) H'):Does (env Try.prog) 77 [.slice (some ⟨b,0,none⟩) 2 2] H Q:=by
 have hld:ld H ⟨b,0,none⟩ [.slice a l.length c,.slice a' m.length c']:=⟨rfl,_,hb,mk_rd (cs:=[.slice a l.length c,.slice a' m.length c']) (u:=0)⟩
 have r0:ld H ⟨b,0+0*1,none⟩ [.slice a l.length c]:=ldSub hld 0 1 (by simp)
 have r1:ld H ⟨b,0+1*1,none⟩ [.slice a' m.length c']:=ldSub hld 1 1 (by simp)
 refine fn77 ok ?_
 show vc77_L3 _ _ _ _ _
 unfold vc77_L3
 refine ⟨fun k a4 n5 n6 x7 a8 n9 n10 x11 x12 H13=>a4=some ⟨b,0,none⟩/\n5=2/\n6=2/\a8=some ⟨b,0,none⟩/\n9=2/\n10=2/\x11=2/\H13=H/\((k=2/\x12=0/\x7=0)\/(k=1/\x12=1/\x7=l.length)\/(k=0/\x12=2/\x7=((l.length+m.length:Nat):Int))),⟨2,rfl,rfl,rfl,rfl,rfl,rfl,rfl,rfl,.inl ⟨rfl,rfl,rfl⟩⟩,?_⟩
 rintro k a4 n5 n6 x7 a8 n9 n10 x11 x12 H13 ⟨rfl,rfl,rfl,rfl,rfl,rfl,rfl,rfl,hx⟩
 refine ⟨fun hlt=>?_,fun hge=>?_⟩
 .rcases hx with ⟨rfl,rfl,rfl⟩ | ⟨rfl,rfl,rfl⟩ | ⟨rfl,rfl,rfl⟩
  .have e:IntKind.wrap .i64 (0+((l.length:Nat):Int))=l.length:=by rw [wrap64 (by omega) (by omega)]; omega
   refine ⟨⟨by decide,by decide⟩,b,0,rfl,a,_,c,r0,fun z=>?_,fun z=>⟨1,by decide,rfl,rfl,rfl,rfl,rfl,rfl,rfl,rfl,.inr (.inl ⟨rfl,rfl,e⟩)⟩⟩
   rw [e] at z
   have:=of_decide_eq_true z; omega
  .have e:IntKind.wrap .i64 (((l.length:Nat):Int)+((m.length:Nat):Int))=((l.length+m.length:Nat):Int):=by rw [wrap64 (by omega) (by omega)]; omega
   refine ⟨⟨by decide,by decide⟩,b,0,rfl,a',_,c',r1,fun z=>?_,fun z=>⟨0,by decide,rfl,rfl,rfl,rfl,rfl,rfl,rfl,rfl,.inr (.inr ⟨rfl,rfl,e⟩)⟩⟩
   rw [e] at z
   have:=of_decide_eq_true z; omega
  .have:=of_decide_eq_true hlt; omega
 .rcases hx with ⟨rfl,rfl,rfl⟩ | ⟨rfl,rfl,rfl⟩ | ⟨rfl,rfl,rfl⟩
  .exact absurd (of_decide_eq_false hge) (by decide)
  .exact absurd (of_decide_eq_false hge) (by decide)
  refine c85 ok (by omega) fun a16 c26 H15 o15=>⟨a16,_,c26,rfl,?_⟩
  unfold vc77_L2
  refine ⟨fun k a4 n5 n6 a7 n8 n9 x10 x11 H12=>a7=some ⟨b,0,none⟩/\n8=2/\x10=2/\((k=2/\x11=0/\Nr H13 H12 1 a4 n5 n6 []/\n5=0)\/(k=1/\x11=1/\Nr H13 H12 1 a4 n5 n6 (sC l)/\n5=l.length)\/(k=0/\x11=2/\Nr H13 H12 1 a4 n5 n6 (sC (l++m))/\n5=(l++m).length)),⟨2,rfl,rfl,rfl,.inl ⟨rfl,rfl,o15,rfl⟩⟩,?_⟩
  rintro k a4 n5 n6 a7 n8 n9 x10 x11 H12 ⟨rfl,rfl,rfl,hx⟩
  refine ⟨fun hlt=>?_,fun hge=>?_⟩
  .rcases hx with ⟨rfl,rfl,o,rfl⟩ | ⟨rfl,rfl,o,rfl⟩ | ⟨rfl,rfl,o,rfl⟩
   .refine ⟨⟨by decide,by decide⟩,b,0,rfl,a,_,c,o.le.ld r0,fun nm hnm=>?_⟩
    obtain ⟨a5,c5,H5,f1,f2,f3⟩:=o.app (ti:=tiS) (nm:=nm) (m:=l.length) (new:=sC l) hnm (by rw [sC_len]; exact (Nat.mul_one _).symm) (by omega) (by decide) (by decide)
    rw [Nat.zero_add] at f1 f2
    refine ⟨_,_,knew_of (ti:=tiS) (o.le.kold hl),a5,_,c5,H5,?_,1,by decide,rfl,rfl,rfl,.inr (.inl ⟨rfl,rfl,f2,rfl⟩)⟩
    exact f1
   .refine ⟨⟨by decide,by decide⟩,b,0,rfl,a',_,c',o.le.ld r1,fun nm hnm=>?_⟩
    obtain ⟨a5,c5,H5,f1,f2,f3⟩:=o.app (ti:=tiS) (nm:=nm) (m:=m.length) (new:=sC m) hnm (by rw [sC_len]; exact (Nat.mul_one _).symm) (by omega) (by decide) (by decide)
    rw [<- sC_app,<- List.length_append] at f2
    rw [<- List.length_append] at f1
    refine ⟨_,_,knew_of (ti:=tiS) (o.le.kold hm),a5,_,c5,H5,?_,0,by decide,rfl,rfl,rfl,.inr (.inr ⟨rfl,rfl,f2,rfl⟩)⟩
    exact f1
   .have:=of_decide_eq_true hlt; omega
  .rcases hx with ⟨rfl,rfl,o,rfl⟩ | ⟨rfl,rfl,o,rfl⟩ | ⟨rfl,rfl,o,rfl⟩
   .exact absurd (of_decide_eq_false hge) (by decide)
   .exact absurd (of_decide_eq_false hge) (by decide)
   exact hq _ _ _ o
theorem c68 {g:Gm} {H:KH} {Q:PQ} (hg:GI H g) (hs:g.toks.length+g.nts.length<=1000) (hq:∀ a c H',Nr H H' 1 a (namesG g).length c (sC (namesG g))->Q (.slice a (namesG g).length c) H'):Does (env Try.prog) 68 [gv g] H Q:=by
 refine fn68 ok ?_
 show vc68_L3 _ _ _ _ _ _ _ _ _ _ _
 unfold vc68_L3
 refine ⟨fun k a4 n5 n6 a7 n8 n9 a10 n11 n12 a13 n14 n15 a16 n17 n18 x19 x20 H21=>a7=g.na/\n8=g.nts.length/\a16=g.ta/\n17=g.toks.length/\x19=g.toks.length/\∃ i:Nat,x20=i/\i<=g.toks.length/\k=g.toks.length-i/\n14=i/\Nr H H21 1 a13 n14 n15 (sC ((g.toks.take i).map Tk.name)),⟨_,rfl,rfl,rfl,rfl,rfl,0,rfl,by omega,rfl,rfl,.nil (Le.refl H)⟩,?_⟩
 rintro k a4 n5 n6 a7 n8 n9 a10 n11 n12 a13 n14 n15 a16 n17 n18 x19 x20 H21 ⟨rfl,rfl,rfl,rfl,rfl,i,rfl,hi,rfl,rfl,o⟩
 refine ⟨fun hlt=>?_,fun hge=>?_⟩
 .have hlt:n14<g.toks.length:=by have:=of_decide_eq_true hlt; omega
  have e0:Int.toNat ((n14:Nat):Int)=n14:=by omega
  have hi1:IntKind.wrap .i64 (((n14:Nat):Int)+1)=((n14+1:Nat):Int):=by rw [wrap64 (by omega) (by omega)]; omega
  obtain ⟨b0,o0,ha,r0⟩:=tk_ld (o.le.kold hg.t) hlt
  rw [e0,hi1]
  refine ⟨⟨by omega,by omega⟩,b0,o0,ha,_,_,_,r0,fun n6 h6 n7 h7=>⟨_,_,knew_of (ti:=tiS) (lit_kold (if_pos rfl) rfl),?_⟩⟩
  obtain ⟨a5,c5,H5,f1,f2,f3⟩:=(o.up (Le.new h6)).app (ti:=tiS) (nm:=n7) (m:=1) (new:=[.string g.toks[n14].name]) h7 rfl (by omega) (by decide) (by decide)
  refine ⟨a5,_,c5,H5,f1,g.toks.length-(n14+1),by omega,rfl,rfl,rfl,rfl,rfl,n14+1,rfl,by omega,rfl,rfl,?_⟩
  have e:sC ((g.toks.take (n14+1)).map Tk.name)=sC ((g.toks.take n14).map Tk.name)++[.string g.toks[n14].name]:=by
   rw [List.take_succ_eq_append_getElem hlt,List.map_append,sC_app]; rfl
  rw [e]; exact f2
 .have hge:n14=g.toks.length:=by have:=of_decide_eq_false hge; omega
  subst hge
  rw [List.take_length] at o
  unfold vc68_L2
  refine ⟨fun k a4 n5 n6 a7 n8 n9 x10 x11 H12=>a7=g.na/\n8=g.nts.length/\x10=g.nts.length/\∃ i:Nat,x11=i/\i<=g.nts.length/\k=g.nts.length-i/\n5=g.toks.length+i/\Nr H H12 1 a4 n5 n6 (sC (g.toks.map Tk.name++(g.nts.take i).map Nt.name)),⟨_,rfl,rfl,rfl,0,rfl,by omega,rfl,rfl,by simpa using o⟩,?_⟩
  rintro k a4 n5 n6 a7 n8 n9 x10 x11 H12 ⟨rfl,rfl,rfl,i,rfl,hi,rfl,rfl,o⟩
  refine ⟨fun hlt=>?_,fun hge=>?_⟩
  .have hlt:i<g.nts.length:=by have:=of_decide_eq_true hlt; omega
   have e0:Int.toNat ((i:Nat):Int)=i:=by omega
   have hi1:IntKind.wrap .i64 (((i:Nat):Int)+1)=((i+1:Nat):Int):=by rw [wrap64 (by omega) (by omega)]; omega
   obtain ⟨b0,o0,ha,r0⟩:=nt_ld (o.le.kold hg.n) hlt
   rw [e0,hi1]
   refine ⟨⟨by omega,by omega⟩,b0,o0,ha,_,_,_,_,_,_,_,r0,fun n6 h6 n7 h7=>⟨_,_,knew_of (ti:=tiS) (lit_kold (if_pos rfl) rfl),?_⟩⟩
   obtain ⟨a5,c5,H5,f1,f2,f3⟩:=(o.up (Le.new h6)).app (ti:=tiS) (nm:=n7) (m:=1) (new:=[.string g.nts[i].name]) h7 rfl (by omega) (by decide) (by decide)
   refine ⟨a5,_,c5,H5,f1,g.nts.length-(i+1),by omega,rfl,rfl,rfl,i+1,rfl,by omega,rfl,rfl,?_⟩
   have e:sC (g.toks.map Tk.name++(g.nts.take (i+1)).map Nt.name)=sC (g.toks.map Tk.name++(g.nts.take i).map Nt.name)++[.string g.nts[i].name]:=by
    rw [List.take_succ_eq_append_getElem hlt,List.map_append,<- List.append_assoc,sC_app]; rfl
   rw [e]; exact f2
  .have hge:i=g.nts.length:=by have:=of_decide_eq_false hge; omega
   subst hge
   rw [List.take_length] at o
   have e:g.toks.length+g.nts.length=(namesG g).length:=by unfold namesG; simp
   rw [e] at o ⊢
   exact hq _ _ _ o
theorem c70 {x:Nt} {H:KH} {Q:PQ} (h1:kold H 1 x.ia x.inh.length=some (sC x.inh)) (h2:kold H 1 x.sa x.syn.length=some (sC x.syn)) (hs:x.inh.length<=1000) (ht:x.syn.length<=1000) (hq:∀ b H',Le H H'->(b=true↔AttrsOk x)->Q (.bool b) H'):Does (env Try.prog) 70 [ntV x] H Q:=by
 have e:IntKind.wrap .i64 (((x.inh.length:Nat):Int)+((x.syn.length:Nat):Int))=((x.inh.length+x.syn.length:Nat):Int):=by rw [wrap64 (by omega) (by omega)]; omega
 refine fn70 ok ?_
 unfold vc70
 rw [e]
 refine ⟨fun z n1 hn=>?_,fun z=>hq false H (Le.refl H) ⟨fun y=>(by cases y),fun y=>?_⟩⟩
 .have z:x.inh.length+x.syn.length<=4:=by have:=of_decide_eq_true z; omega
  have hl:=Le.new (e:=mkEnt [.slice x.ia x.inh.length x.ic,.slice x.sa x.syn.length x.sc] 0) hn
  refine c77 ok (l:=x.inh) (m:=x.syn) (if_pos rfl) (hl.kold h1) (hl.kold h2) (by omega) fun a2 c2 H3 o=>⟨a2,_,c2,rfl,c67 ok (o.g.ok (by decide)) o.row (by simp; omega) fun b hb=>⟨b,rfl,hq b H3 (hl.trans o.le) ⟨fun y=>⟨z,hb.1 y⟩,fun y=>hb.2 y.b⟩⟩⟩
 .have:=of_decide_eq_false z
  have:=y.a
  omega
theorem c69 {g:Gm} {H:KH} {Q:PQ} (hg:GI H g) (hs:g.nts.length<=1000) (hf:∀ i (h:i<g.nts.length),g.nts[i].inh.length<=1000/\g.nts[i].syn.length<=1000) (hq:∀ b H',Le H H'->(b=true↔∀ i (h:i<g.nts.length),AttrsOk g.nts[i])->Q (.bool b) H'):Does (env Try.prog) 69 [.slice g.na g.nts.length g.nc,.func (.func 70) #[] #[]] H Q:=by
 refine fn69 ok ?_
 show vc69_L1 _ _ _ _ _ _
 unfold vc69_L1
 refine ⟨fun k n4 l5 a6 n7 n8 x9 x10 H11=>n4=70/\l5=[]/\a6=g.na/\n7=g.nts.length/\x9=g.nts.length/\Le H H11/\∃ i:Nat,x10=i/\i<=g.nts.length/\k=g.nts.length-i/\∀ j (hj:j<g.nts.length),j<i->AttrsOk g.nts[j],⟨_,rfl,rfl,rfl,rfl,rfl,Le.refl H,0,rfl,by omega,rfl,fun j _ z=>absurd z (by omega)⟩,?_⟩
 rintro k n4 l5 a6 n7 n8 x9 x10 H11 ⟨rfl,rfl,rfl,rfl,rfl,hle,i,rfl,hi,rfl,hv⟩
 refine ⟨fun hlt=>?_,fun hge=>?_⟩
 .have hlt:i<g.nts.length:=by have:=of_decide_eq_true hlt; omega
  have e0:Int.toNat ((i:Nat):Int)=i:=by omega
  have hi1:IntKind.wrap .i64 (((i:Nat):Int)+1)=((i+1:Nat):Int):=by rw [wrap64 (by omega) (by omega)]; omega
  obtain ⟨b0,o0,ha,r0⟩:=nt_ld (hle.kold hg.n) hlt
  rw [e0,hi1]
  refine ⟨⟨by omega,by omega⟩,b0,o0,ha,_,_,_,_,_,_,_,r0,c70 ok (x:=g.nts[i]) (hle.kold (hg.ni i hlt).1) (hle.kold (hg.ni i hlt).2) (hf i hlt).1 (hf i hlt).2 fun b H2 h2 hb=>⟨b,rfl,fun z=>?_,fun z=>?_⟩⟩
  .refine hq false H2 (hle.trans h2) ⟨fun y=>(by cases y),fun y=>?_⟩
   have:=hb.2 (y i hlt)
   rw [this] at z; cases z
  .have bt:b=true:=by cases b; cases z; rfl
   refine ⟨g.nts.length-(i+1),by omega,rfl,rfl,rfl,rfl,rfl,hle.trans h2,i+1,rfl,by omega,rfl,fun j hj z=>?_⟩
   by_cases y:j=i
   .subst y; exact hb.1 bt
   .exact hv j hj (by omega)
 .have hge:i=g.nts.length:=by have:=of_decide_eq_false hge; omega
  subst hge
  exact hq true _ hle ⟨fun _ j hj=>hv j hj hj,fun _=>rfl⟩
theorem c81 {g:Gm} {s:Sy} {H:KH} {Q:PQ} (hg:GI H g) (hq:∀ b,(b=true↔SymOk g.toks g.nts.length s)->Q (.bool b) H):Does (env Try.prog) 81 [gv g,syV s] H Q:=by
 refine fn81 ok ⟨fun z=>c86 ok fun b hb=>⟨b,rfl,fun z2=>?_,fun z2=>?_⟩,fun z=>c78 ok fun b hb=>⟨b,rfl,hq b ?_⟩⟩
 .have hp:=hb.1 z2
  have hlt:s.pos.toNat<g.toks.length:=by omega
  obtain ⟨b0,o0,ha,r0⟩:=tk_ld hg.t hlt
  refine ⟨⟨hp.1,hp.2⟩,b0,o0,ha,rfl,_,ldSub r0 2 1 (by simp),hq _ ?_⟩
  rw [Bool.not_eq_true']
  exact ⟨fun y=>⟨hp.1,fun _=>⟨hlt,y⟩,fun y=>(by rw [z] at y; cases y)⟩,fun y=>(y.b z).2⟩
 .refine hq false ⟨fun y=>(by cases y),fun y=>?_⟩
  obtain ⟨h,_⟩:=y.b z
  have:=y.a
  have:=hb.2 ⟨this,by omega⟩
  rw [z2] at this; cases this
 .rw [hb]
  exact ⟨fun y=>⟨y.1,fun w=>(by rw [z] at w; cases w),fun _=>y.2⟩,fun y=>⟨y.a,y.c z⟩⟩
theorem c80 {g:Gm} {a:OA} {c:Nat} {l:List Sy} {H:KH} {Q:PQ} (hg:GI H g) (hl:kold H 2 a l.length=some (syC l)) (hs:l.length<=1000000) (hq:∀ b,(b=true↔∀ i (h:i<l.length),SymOk g.toks g.nts.length l[i])->Q (.bool b) H):Does (env Try.prog) 80 [.slice a l.length c,.func (.func 81) #[gv g] #[]] H Q:=by
 refine fn80 ok (p1:=81) (p1k:=[gv g]) ?_
 show vc80_L1 _ _ _ _ _ _ _
 unfold vc80_L1
 refine ⟨fun k n4 l5 a6 n7 n8 x9 x10 H11=>n4=81/\l5=[gv g]/\a6=a/\n7=l.length/\x9=l.length/\H11=H/\∃ i:Nat,x10=i/\i<=l.length/\k=l.length-i/\∀ j (hj:j<l.length),j<i->SymOk g.toks g.nts.length l[j],⟨_,rfl,rfl,rfl,rfl,rfl,rfl,0,rfl,by omega,rfl,fun j _ z=>absurd z (by omega)⟩,?_⟩
 rintro k n4 l5 a6 n7 n8 x9 x10 H11 ⟨rfl,rfl,rfl,rfl,rfl,rfl,i,rfl,hi,rfl,hv⟩
 refine ⟨fun hlt=>?_,fun hge=>?_⟩
 .have hlt:i<l.length:=by have:=of_decide_eq_true hlt; omega
  have e0:Int.toNat ((i:Nat):Int)=i:=by omega
  have hi1:IntKind.wrap .i64 (((i:Nat):Int)+1)=((i+1:Nat):Int):=by rw [wrap64 (by omega) (by omega)]; omega
  obtain ⟨b0,o0,ha,r0⟩:=sy_ld hl hlt
  rw [e0,hi1]
  refine ⟨⟨by omega,by omega⟩,b0,o0,ha,_,_,r0,c81 ok (g:=g) (s:=l[i]) hg fun b hb=>⟨b,rfl,fun z=>?_,fun z=>?_⟩⟩
  .refine hq false ⟨fun y=>(by cases y),fun y=>?_⟩
   have:=hb.2 (y i hlt)
   rw [this] at z; cases z
  .have bt:b=true:=by cases b; cases z; rfl
   refine ⟨l.length-(i+1),by omega,rfl,rfl,rfl,rfl,rfl,rfl,i+1,rfl,by omega,rfl,fun j hj z=>?_⟩
   by_cases y:j=i
   .subst y; exact hb.1 bt
   .exact hv j hj (by omega)
 .have hge:i=l.length:=by have:=of_decide_eq_false hge; omega
  subst hge
  exact hq true ⟨fun _ j hj=>hv j hj hj,fun _=>rfl⟩
theorem c72 {g:Gm} {x:Pr} {H:KH} {Q:PQ} (hg:GI H g) (hx:kold H 2 x.ra x.right.length=some (syC x.right)) (hs:x.right.length<=1000000000) (hq:∀ b,(b=true↔ProdOk g.toks g.nts.length x)->Q (.bool b) H):Does (env Try.prog) 72 [gv g,prV x] H Q:=by
 refine fn72 ok (c78 ok fun b hb=>⟨b,rfl,fun z=>c79 ok fun b2 h2=>⟨b2,rfl,fun z2=>?_,fun z2=>hq false ⟨fun y=>(by cases y),fun y=>?_⟩⟩,fun z=>hq false ⟨fun y=>(by cases y),fun y=>?_⟩⟩)
 .have h2:=h2.1 z2
  exact c80 ok hg hx (by omega) fun b3 h3=>⟨b3,rfl,hq b3 ⟨fun y=>⟨hb.1 z,by omega,h3.1 y⟩,fun y=>h3.2 y.c⟩⟩
 .have:=h2.2 ⟨by omega,by have:=y.b; omega⟩
  rw [z2] at this; cases this
 .have:=hb.2 y.a
  rw [z] at this; cases this
theorem c71 {g:Gm} {H:KH} {Q:PQ} (hg:GI H g) (hs:g.prods.length<=1000) (hf:∀ i (h:i<g.prods.length),g.prods[i].right.length<=1000) (hq:∀ b,(b=true↔∀ i (h:i<g.prods.length),ProdOk g.toks g.nts.length g.prods[i])->Q (.bool b) H):Does (env Try.prog) 71 [.slice g.pa g.prods.length g.pc,.func (.func 72) #[gv g] #[]] H Q:=by
 refine fn71 ok (p1:=72) (p1k:=[gv g]) ?_
 show vc71_L1 _ _ _ _ _ _ _
 unfold vc71_L1
 refine ⟨fun k n4 l5 a6 n7 n8 x9 x10 H11=>n4=72/\l5=[gv g]/\a6=g.pa/\n7=g.prods.length/\x9=g.prods.length/\H11=H/\∃ i:Nat,x10=i/\i<=g.prods.length/\k=g.prods.length-i/\∀ j (hj:j<g.prods.length),j<i->ProdOk g.toks g.nts.length g.prods[j],⟨_,rfl,rfl,rfl,rfl,rfl,rfl,0,rfl,by omega,rfl,fun j _ z=>absurd z (by omega)⟩,?_⟩
 rintro k n4 l5 a6 n7 n8 x9 x10 H11 ⟨rfl,rfl,rfl,rfl,rfl,rfl,i,rfl,hi,rfl,hv⟩
 refine ⟨fun hlt=>?_,fun hge=>?_⟩
 .have hlt:i<g.prods.length:=by have:=of_decide_eq_true hlt; omega
  have e0:Int.toNat ((i:Nat):Int)=i:=by omega
  have hi1:IntKind.wrap .i64 (((i:Nat):Int)+1)=((i+1:Nat):Int):=by rw [wrap64 (by omega) (by omega)]; omega
  obtain ⟨b0,o0,ha,r0⟩:=pr_ld hg.p hlt
  rw [e0,hi1]
  refine ⟨⟨by omega,by omega⟩,b0,o0,ha,_,_,_,_,_,_,_,r0,c72 ok (g:=g) (x:=g.prods[i]) hg (hg.pi i hlt).1 (by have:=hf i hlt; omega) fun b hb=>⟨b,rfl,fun z=>?_,fun z=>?_⟩⟩
  .refine hq false ⟨fun y=>(by cases y),fun y=>?_⟩
   have:=hb.2 (y i hlt)
   rw [this] at z; cases z
  .have bt:b=true:=by cases b; cases z; rfl
   refine ⟨g.prods.length-(i+1),by omega,rfl,rfl,rfl,rfl,rfl,rfl,i+1,rfl,by omega,rfl,fun j hj z=>?_⟩
   by_cases y:j=i
   .subst y; exact hb.1 bt
   .exact hv j hj (by omega)
 .have hge:i=g.prods.length:=by have:=of_decide_eq_false hge; omega
  subst hge
  exact hq true ⟨fun _ j hj=>hv j hj hj,fun _=>rfl⟩
theorem c48 {g:Gm} {H:KH} {Q:PQ} (hg:GI H g) (hf:Few g) (hq:∀ b H',Le H H'->(b=true↔MayG g)->Q (.bool b) H'):Does (env Try.prog) 48 [gv g] H Q:=by
 have no:∀ {b:Bool} {R:Prop},(!b)=true->(b=true↔R)->¬ R:=fun {b R} z h r=>by
  have:=h.2 r
  rw [this] at z; cases z
 have yes:∀ {b:Bool} {R:Prop},(!b)=false->(b=true↔R)->R:=fun {b R} z h=>h.1 (by cases b; cases z; rfl)
 have nq:∀ {H'},Le H H'->¬ MayG g->Q (.bool false) H':=fun hl h=>hq false _ hl ⟨fun y=>(by cases y),fun y=>absurd y h⟩
 refine fn48 ok (c64 ok fun b1 h1=>⟨b1,rfl,fun z1=>nq (Le.refl H) fun y=>no z1 h1 ?_,fun z1=>c65 ok fun b2 h2=>⟨b2,rfl,fun z2=>nq (Le.refl H) fun y=>no z2 h2 ?_,fun z2=>c66 ok fun b3 h3=>⟨b3,rfl,fun z3=>nq (Le.refl H) fun y=>no z3 h3 ?_,fun z3=>?_⟩⟩⟩)
 .have:=y.t; omega
 .have:=y.n; omega
 .have:=y.p; omega
 have y1:=yes z1 h1
 have y2:=yes z2 h2
 have y3:=yes z3 h3
 refine c68 ok hg (by omega) fun a c H2 o=>⟨a,_,c,rfl,c67 ok (o.g.ok (by decide)) o.row (by unfold namesG; simp; omega) fun b4 h4=>⟨b4,rfl,fun z4=>?_,fun z4=>nq o.le fun y=>?_⟩⟩
 .refine c69 ok (hg.up o.le) (by omega) (fun i h=>⟨(hf.ns i h).2.1,(hf.ns i h).2.2.1⟩) fun b5 H5 l5 h5=>⟨b5,rfl,fun z5=>?_,fun z5=>nq (o.le.trans l5) fun y=>?_⟩
  .exact c71 ok ((hg.up o.le).up l5) (by omega) hf.ps fun b6 h6=>⟨b6,rfl,hq b6 H5 (o.le.trans l5) ⟨fun y=>⟨by omega,by omega,by omega,h4.1 z4,h5.1 z5,h6.1 y⟩,fun y=>h6.2 y.pr⟩⟩
  .have:=h5.2 y.at_
   rw [z5] at this; cases this
 .have:=h4.2 y.nm
  rw [z4] at this; cases this
theorem c31 {g:Gm} {H:KH} {Q:PQ} (hg:GI H g) (hf:Few g) (hq:∀ b H',Le H H'->(b=true↔MayG g)->Q (.bool b) H'):Does (env Try.prog) 31 [gv g] H Q :=
 fn31 ok (c47 ok (v:=.bool true) ⟨_,_,_,_,_,_,_,_,_,rfl,c48 ok hg hf fun b H' hl hb=>⟨b,rfl,hq b H' hl hb⟩⟩)
end
end Va
end Go.Proofs.Ytefiipkfppaibaa
namespace Go.Ew
open Go.Ev Go.Deep
def tiI:TI:=⟨1,8,false,5,0,0,[],[.int .i64 0]⟩
def offP (ls:List Int) (nt:Int) (i:Nat):List Int:=List.map (fun j:Nat=>(j:Int)) ((List.range i).filter fun j=>decide (ls[j]? = some nt))
def lefts (g:Gm):List Int:=g.prods.map Pr.left
def offG (g:Gm) (nt:Int):List Int:=offP (lefts g) nt g.prods.length
theorem offP_succ (ls:List Int) (nt:Int) (i:Nat):offP ls nt (i+1)=offP ls nt i++(if ls[i]? = some nt then [(i:Int)] else []):=by
 unfold offP
 rw [List.range_succ,List.filter_append,List.map_append]
 congr 1
 by_cases h:ls[i]? = some nt
 .rw [if_pos h]; simp [h]
 .rw [if_neg h]; simp [h]
theorem offP_len (ls:List Int) (nt:Int) (i:Nat):(offP ls nt i).length<=i:=by
 unfold offP
 rw [List.length_map]
 have:=List.length_filter_le (fun j=>decide (ls[j]? = some nt)) (List.range i)
 rwa [List.length_range] at this
theorem lefts_at {g:Gm} {i:Nat} (h:i<g.prods.length):(lefts g)[i]? = some g.prods[i].left:=by unfold lefts; simp [h]
def Ni (X H:KH) (a:OA) (c:Nat) (l:List Int):Prop:=Nr X H 1 a l.length c (inC l)
end Go.Ew
namespace Go.Proofs.Ytefiipkfppaibaa
open Go.Ev Go.Ew
namespace Va
section
variable (ok : EnvOk (env Try.prog))
include ok
theorem c61 {g:Gm} {nt:Int} {H:KH} {Q:PQ} (hg:GI H g) (hs:g.prods.length<=100000) (hq:∀ a c H',Ni H H' a c (offG g nt)->Q (.slice a (offG g nt).length c) H'):Does (env Try.prog) 61 [gv g,.int .i64 nt] H Q:=by
 refine fn61 ok ?_
 show vc61_L1 _ _ _ _ _ _ _ _ _ _ _ _
 unfold vc61_L1
 refine ⟨fun k x4 a5 n6 n7 a8 n9 n10 a11 n12 n13 a14 n15 n16 x17 H18=>x4=nt/\a11=g.pa/\n12=g.prods.length/\∃ i:Nat,x17=i/\i<=g.prods.length/\k=g.prods.length-i/\n15=(offP (lefts g) nt i).length/\Nr H H18 1 a14 n15 n16 (inC (offP (lefts g) nt i)),⟨_,rfl,rfl,rfl,0,rfl,by omega,rfl,rfl,.nil (Le.refl H)⟩,?_⟩
 rintro k x4 a5 n6 n7 a8 n9 n10 a11 n12 n13 a14 n15 n16 x17 H18 ⟨rfl,rfl,rfl,i,rfl,hi,rfl,rfl,o⟩
 refine ⟨fun hlt=>?_,fun hge=>?_⟩
 .have hlt:i<g.prods.length:=by have:=of_decide_eq_true hlt; omega
  have e0:Int.toNat ((i:Nat):Int)=i:=by omega
  have hi1:IntKind.wrap .i64 (((i:Nat):Int)+1)=((i+1:Nat):Int):=by rw [wrap64 (by omega) (by omega)]; omega
  have hl:=offP_len (lefts g) x4 i
  obtain ⟨b0,o0,ha,r0⟩:=pr_ld (o.le.kold hg.p) hlt
  rw [e0,hi1]
  refine ⟨⟨by omega,by omega⟩,b0,o0,ha,rfl,_,ldSub r0 0 1 (by simp),fun z=>fun n6 h6 n7 h7=>⟨_,_,knew_of (ti:=tiI) (lit_kold (if_pos rfl) rfl),?_⟩,fun z=>?_⟩
  .have z:=of_decide_eq_true z
   obtain ⟨a5,c5,H5,f1,f2,f3⟩:=(o.up (Le.new h6)).app (ti:=tiI) (nm:=n7) (m:=1) (new:=[.int .i64 ((i:Nat):Int)]) h7 rfl (by omega) (by decide) (by decide)
   have e:offP (lefts g) x4 (i+1)=offP (lefts g) x4 i++[((i:Nat):Int)]:=by rw [offP_succ,if_pos (by rw [lefts_at hlt,z])]
   refine ⟨a5,_,c5,H5,f1,g.prods.length-(i+1),by omega,rfl,rfl,rfl,i+1,rfl,by omega,rfl,by rw [e,List.length_append]; rfl,?_⟩
   rw [e,inC_app]; exact f2
  .have z:=of_decide_eq_false z
   have e:offP (lefts g) x4 (i+1)=offP (lefts g) x4 i:=by rw [offP_succ,if_neg (by rw [lefts_at hlt]; exact fun w=>z (Option.some.inj w)),List.append_nil]
   refine ⟨g.prods.length-(i+1),by omega,rfl,rfl,rfl,i+1,rfl,by omega,rfl,by rw [e],?_⟩
   rw [e]; exact o
 .have hge:i=g.prods.length:=by have:=of_decide_eq_false hge; omega
  subst hge
  exact hq _ _ _ o
theorem c62 {a:OA} {c:Nat} {l:List ByteArray} {H:KH} {Q:PQ} (hl:kold H 1 a l.length=some (sC l)) (hs:l.length<=1000000) (hz:∀ s∈l,s.size<=140737488355328) (hq:∀ b,(b=true↔NamesOk l)->Q (.bool b) H):Does (env Try.prog) 62 [.slice a l.length c] H Q:=by
 refine fn62 ok ?_
 show vc62_L3 _ _ _ _ _
 unfold vc62_L3
 refine ⟨fun k a4 n5 n6 x7 H8=>a4=a/\n5=l.length/\H8=H/\∃ i:Nat,x7=i/\i<=l.length/\k=l.length-i/\∀ j (hj:j<l.length),j<i->NameOk l[j]/\∀ m (hm:m<j),l[j]≠l[m]'(by omega),⟨_,rfl,rfl,rfl,0,rfl,by omega,rfl,fun j _ z=>absurd z (by omega)⟩,?_⟩
 rintro k a4 n5 n6 x7 H8 ⟨rfl,rfl,rfl,i,rfl,hi,rfl,hv⟩
 refine ⟨fun hlt=>?_,fun hge=>?_⟩
 .have hlt:i<l.length:=by have:=of_decide_eq_true hlt; omega
  have e0:Int.toNat ((i:Nat):Int)=i:=by omega
  have hi1:IntKind.wrap .i64 (((i:Nat):Int)+1)=((i+1:Nat):Int):=by rw [wrap64 (by omega) (by omega)]; omega
  obtain ⟨b0,o0,ha,r0⟩:=s_ld hl hlt
  unfold vc62_L2
  refine ⟨fun k' a4' n5 n6 x7 x8 H9=>a4'=a4/\n5=l.length/\x7=i/\H9=H8/\∃ j:Nat,x8=j/\j<=i/\k'=i-j/\∀ m (hm:m<l.length),m<j->l[i]≠l[m],⟨_,rfl,rfl,rfl,rfl,0,rfl,by omega,rfl,fun m _ z=>absurd z (by omega)⟩,?_⟩
  rintro k' a4' n5 n6 x7 x8 H9 ⟨rfl,rfl,rfl,rfl,j,rfl,hj,rfl,hw⟩
  refine ⟨fun hlt2=>?_,fun hge2=>?_⟩
  .have hlt2:j<i:=by have:=of_decide_eq_true hlt2; omega
   have e1:Int.toNat ((j:Nat):Int)=j:=by omega
   have hj1:IntKind.wrap .i64 (((j:Nat):Int)+1)=((j+1:Nat):Int):=by rw [wrap64 (by omega) (by omega)]; omega
   obtain ⟨b1,o1,ha1,r1⟩:=s_ld hl (i:=j) (by omega)
   rw [e0,e1,hj1]
   refine ⟨trivial,⟨by omega,by omega⟩,b0,o0,ha,_,r0,⟨by omega,by omega⟩,b1,o1,ha1,_,r1,fun z=>?_,fun z=>?_⟩
   .refine hq false ⟨fun y=>(by cases y),fun y=>?_⟩
    exact absurd (strEq_iff.1 z) (y.b i hlt j hlt2)
   .refine ⟨i-(j+1),by omega,rfl,rfl,rfl,rfl,j+1,rfl,by omega,rfl,fun m hm z2=>?_⟩
    by_cases e:m=j
    .subst e
     intro w
     rw [strEq_iff.2 w] at z; cases z
    .exact hw m hm (by omega)
  .have hge2:j=i:=by have:=of_decide_eq_false hge2; omega
   subst hge2
   rw [e0,hi1]
   refine ⟨⟨by omega,by omega⟩,b0,o0,ha,_,r0,c73 ok (hz _ (List.getElem_mem _)) fun b hb=>⟨b,rfl,fun z=>?_,fun z=>?_⟩⟩
   .refine hq false ⟨fun y=>(by cases y),fun y=>?_⟩
    have:=hb.2 (y.a j hlt)
    rw [this] at z; cases z
   .have bt:b=true:=by cases b; cases z; rfl
    refine ⟨l.length-(j+1),by omega,rfl,rfl,rfl,j+1,rfl,by omega,rfl,fun m hm z2=>?_⟩
    by_cases e:m=j
    .subst e; exact ⟨hb.1 bt,fun m' hm'=>hw m' (by omega) hm'⟩
    .exact hv m hm (by omega)
 .have hge:i=l.length:=by have:=of_decide_eq_false hge; omega
  subst hge
  exact hq true ⟨fun _=>⟨fun j hj=>(hv j hj hj).1,fun j hj=>(hv j hj hj).2⟩,fun _=>rfl⟩
theorem c40 {g:Gm} {H:KH} {Q:PQ} (hg:GI H g) (hf:Few g) (hq:∀ b H',Le H H'->(b=true↔MayG g)->Q (.bool b) H'):Does (env Try.prog) 40 [gv g] H Q:=by
 have nq:∀ {H'},Le H H'->¬ MayG g->Q (.bool false) H':=fun hl h=>hq false _ hl ⟨fun y=>(by cases y),fun y=>absurd y h⟩
 refine fn40 ok ⟨fun z=>nq (Le.refl H) fun y=>?_,fun z1=>⟨fun z=>nq (Le.refl H) fun y=>?_,fun z2=>⟨fun z=>nq (Le.refl H) fun y=>?_,fun z3=>⟨fun z=>nq (Le.refl H) fun y=>?_,fun z4=>⟨fun z=>nq (Le.refl H) fun y=>?_,fun z5=>⟨fun z=>nq (Le.refl H) fun y=>?_,fun z6=>?_⟩⟩⟩⟩⟩⟩
 .have:=of_decide_eq_true z; have:=y.t; omega
 .have:=of_decide_eq_true z; have:=y.t; omega
 .have:=of_decide_eq_true z; have:=y.n; omega
 .have:=of_decide_eq_true z; have:=y.n; omega
 .have:=of_decide_eq_true z; have:=y.p; omega
 .have:=of_decide_eq_true z; have:=y.p; omega
 have y1:1<=g.toks.length/\g.toks.length<=8:=by have:=of_decide_eq_false z1; have:=of_decide_eq_false z2; omega
 have y2:1<=g.nts.length/\g.nts.length<=8:=by have:=of_decide_eq_false z3; have:=of_decide_eq_false z4; omega
 have y3:1<=g.prods.length/\g.prods.length<=16:=by have:=of_decide_eq_false z5; have:=of_decide_eq_false z6; omega
 clear z1 z2 z3 z4 z5 z6
 unfold vc40_L7
 refine ⟨fun k a4 n5 n6 a7 n8 n9 a10 n11 n12 a13 n14 n15 x16 H17=>a4=g.ta/\n5=g.toks.length/\a7=g.na/\n8=g.nts.length/\a10=g.pa/\n11=g.prods.length/\∃ i:Nat,x16=i/\i<=g.toks.length/\k=g.toks.length-i/\n14=i/\Nr H H17 1 a13 n14 n15 (sC ((g.toks.take i).map Tk.name)),⟨_,rfl,rfl,rfl,rfl,rfl,rfl,0,rfl,by omega,rfl,rfl,.nil (Le.refl H)⟩,?_⟩
 rintro k a4 n5 n6 a7 n8 n9 a10 n11 n12 a13 n14 n15 x16 H17 ⟨rfl,rfl,rfl,rfl,rfl,rfl,i,rfl,hi,rfl,rfl,o⟩
 refine ⟨fun hlt=>?_,fun hge=>?_⟩
 .have hlt:n14<g.toks.length:=by have:=of_decide_eq_true hlt; omega
  have e0:Int.toNat ((n14:Nat):Int)=n14:=by omega
  have hi1:IntKind.wrap .i64 (((n14:Nat):Int)+1)=((n14+1:Nat):Int):=by rw [wrap64 (by omega) (by omega)]; omega
  obtain ⟨b0,o0,ha,r0⟩:=tk_ld (o.le.kold hg.t) hlt
  rw [e0,hi1]
  refine ⟨⟨by omega,by omega⟩,b0,o0,ha,rfl,_,ldSub r0 0 1 (by simp),fun n6 h6 n7 h7=>⟨_,_,knew_of (ti:=tiS) (lit_kold (if_pos rfl) rfl),?_⟩⟩
  obtain ⟨a5,c5,H5,f1,f2,f3⟩:=(o.up (Le.new h6)).app (ti:=tiS) (nm:=n7) (m:=1) (new:=[.string g.toks[n14].name]) h7 rfl (by omega) (by decide) (by decide)
  refine ⟨a5,_,c5,H5,f1,g.toks.length-(n14+1),by omega,rfl,rfl,rfl,rfl,rfl,rfl,n14+1,rfl,by omega,rfl,rfl,?_⟩
  have e:sC ((g.toks.take (n14+1)).map Tk.name)=sC ((g.toks.take n14).map Tk.name)++[.string g.toks[n14].name]:=by
   rw [List.take_succ_eq_append_getElem hlt,List.map_append,sC_app]; rfl
  rw [e]; exact f2
 have hge:n14=g.toks.length:=by have:=of_decide_eq_false hge; omega
 subst hge
 rw [List.take_length] at o
 unfold vc40_L6
 refine ⟨fun k a4 n5 n6 a7 n8 n9 a10 n11 n12 a13 n14 n15 x16 H17=>a4=g.ta/\n5=g.toks.length/\a7=g.na/\n8=g.nts.length/\a10=g.pa/\n11=g.prods.length/\∃ i:Nat,x16=i/\i<=g.nts.length/\k=g.nts.length-i/\n14=g.toks.length+i/\Nr H H17 1 a13 n14 n15 (sC (g.toks.map Tk.name++(g.nts.take i).map Nt.name))/\∀ j (hj:j<g.nts.length),j<i->AttrsOk g.nts[j],⟨_,rfl,rfl,rfl,rfl,rfl,rfl,0,rfl,by omega,rfl,rfl,by simpa using o,fun j _ z=>absurd z (by omega)⟩,?_⟩
 rintro k a4 n5 n6 a7 n8 n9 a10 n11 n12 a13 n14 n15 x16 H17 ⟨rfl,rfl,rfl,rfl,rfl,rfl,i,rfl,hi,rfl,rfl,o,hv⟩
 refine ⟨fun hlt=>?_,fun hge=>?_⟩
 .have hlt:i<g.nts.length:=by have:=of_decide_eq_true hlt; omega
  have e0:Int.toNat ((i:Nat):Int)=i:=by omega
  have hi1:IntKind.wrap .i64 (((i:Nat):Int)+1)=((i+1:Nat):Int):=by rw [wrap64 (by omega) (by omega)]; omega
  obtain ⟨b0,o0,ha,r0⟩:=nt_ld (o.le.kold hg.n) hlt
  obtain ⟨_,f1s,f2s,f3s,f4s⟩:=hf.ns i hlt
  rw [e0,hi1]
  refine ⟨⟨by omega,by omega⟩,b0,o0,ha,rfl,_,ldSub r0 0 1 (by simp),fun n6 h6 n7 h7=>⟨_,_,knew_of (ti:=tiS) (lit_kold (if_pos rfl) rfl),?_⟩⟩
  obtain ⟨a5,c5,K,f1,f2,f3⟩:=(o.up (Le.new h6)).app (ti:=tiS) (nm:=n7) (m:=1) (new:=[.string g.nts[i].name]) h7 rfl (by omega) (by decide) (by decide)
  have e:sC (g.toks.map Tk.name++(g.nts.take (i+1)).map Nt.name)=sC (g.toks.map Tk.name++(g.nts.take i).map Nt.name)++[.string g.nts[i].name]:=by
   rw [List.take_succ_eq_append_getElem hlt,List.map_append,<- List.append_assoc,sC_app]; rfl
  rw [<- e] at f2
  obtain ⟨bK,oK,haK,rK⟩:=nt_ld (f2.le.kold hg.n) hlt
  refine ⟨a5,_,c5,K,f1,trivial,fun n12 h12=>⟨⟨by omega,by omega⟩,bK,oK,haK,rfl,_,_,_,(Le.new h12).ld (ldSub rK 1 1 (by simp)),⟨by omega,by omega⟩,bK,oK,haK,rfl,_,_,_,(Le.new h12).ld (ldSub rK 2 1 (by simp)),fun n23 h23=>⟨_,_,knew_of (ti:=tiS) ((Le.new h12).kold (f2.le.kold (hg.ni i hlt).1)),?_⟩⟩⟩
  obtain ⟨a26,c28,H29,g1,g2,g3,g4,g5⟩:=(Own.lit (H0:=K) (H:=KH.new K n12 (mkEnt [] 0)) (sz:=tiS.size) n12 0 [] (if_pos rfl) rfl (by decide) h12).append (ti:=tiS) (m:=g.nts[i].inh.length) (nm:=n23) (new:=sC g.nts[i].inh) (Le.new h12) h23 (by rw [sC_len]; exact (Nat.mul_one _).symm) (by omega) (by decide) (by decide)
  rw [Nat.zero_add,List.nil_append] at g2
  rw [Nat.zero_add] at g1
  refine ⟨a26,_,c28,H29,g1,⟨⟨rfl,rfl⟩,rfl,rfl,⟨⟨by omega,by omega⟩,bK,oK,haK,rfl⟩,⟨rfl,rfl⟩,⟨_,_,_,g3.ld (ldSub rK 2 1 (by simp)),rfl⟩,trivial⟩,fun n35 h35=>⟨_,_,knew_of (ti:=tiS) (g3.kold (f2.le.kold (hg.ni i hlt).2)),?_⟩⟩
  obtain ⟨a38,c68,H41,g6,g7,g8,g9,g10⟩:=g2.append (ti:=tiS) (m:=g.nts[i].syn.length) (nm:=n35) (new:=sC g.nts[i].syn) g3 h35 (by rw [sC_len]; exact (Nat.mul_one _).symm) (by omega) (by decide) (by decide)
  rw [<- sC_app,<- List.length_append] at g7
  rw [<- List.length_append] at g6
  refine ⟨a38,_,c68,H41,g6,trivial,fun z=>nq (f2.le.trans g8) fun y=>?_,fun z=>c62 ok (Own.cells g7) (by simp; omega) (fun s hs=>?_) fun b hb=>⟨b,rfl,fun w=>nq (f2.le.trans g8) fun y=>?_,fun w=>?_⟩⟩
  .have:=of_decide_eq_true z
   have:=(y.at_ i hlt).a
   simp only [List.length_append] at *
   omega
  .rcases List.mem_append.1 hs with q | q
   .exact f3s s q
   .exact f4s s q
  .have:=hb.2 (y.at_ i hlt).b
   rw [this] at w; cases w
  .have bt:b=true:=by cases b; cases w; rfl
   refine ⟨g.nts.length-(i+1),by omega,rfl,rfl,rfl,rfl,rfl,rfl,i+1,rfl,by omega,rfl,rfl,f2.up g8,fun j hj z2=>?_⟩
   by_cases e:j=i
   .subst e
    have z:=of_decide_eq_false z
    simp only [List.length_append] at z
    exact ⟨by omega,hb.1 bt⟩
   .exact hv j hj (by omega)
 have hge:i=g.nts.length:=by have:=of_decide_eq_false hge; omega
 subst hge
 rw [List.take_length] at o
 have hat:∀ j (hj:j<g.nts.length),AttrsOk g.nts[j]:=fun j hj=>hv j hj hj
 clear hv
 unfold vc40_L5
 have el:g.toks.length+g.nts.length=(namesG g).length:=by unfold namesG; simp
 have o:Nr H H17 1 a13 (namesG g).length n15 (sC (namesG g)):=by rw [<- el]; exact o
 rw [el]
 refine ⟨fun k a4 n5 n6 a7 n8 n9 a10 n11 n12 a13' n14 n15' x16 H17'=>a4=g.ta/\n5=g.toks.length/\a7=g.na/\n8=g.nts.length/\a10=g.pa/\n11=g.prods.length/\a13'=a13/\n14=(namesG g).length/\n15'=n15/\H17'=H17/\∃ i:Nat,x16=i/\i<=g.prods.length/\k=g.prods.length-i/\∀ j (hj:j<g.prods.length),j<i->ProdOk g.toks g.nts.length g.prods[j],⟨_,rfl,rfl,rfl,rfl,rfl,rfl,rfl,rfl,rfl,rfl,0,rfl,by omega,rfl,fun j _ z=>absurd z (by omega)⟩,?_⟩
 rintro k a4 n5 n6' a7 n8 n9' a10 n11 n12' a13' n14 n15' x16 H17' ⟨rfl,rfl,rfl,rfl,rfl,rfl,rfl,rfl,rfl,rfl,i,rfl,hi,rfl,hv⟩
 refine ⟨fun hlt=>?_,fun hge=>?_⟩
 .have hlt:i<g.prods.length:=by have:=of_decide_eq_true hlt; omega
  have e0:Int.toNat ((i:Nat):Int)=i:=by omega
  have hi1:IntKind.wrap .i64 (((i:Nat):Int)+1)=((i+1:Nat):Int):=by rw [wrap64 (by omega) (by omega)]; omega
  obtain ⟨b0,o0,ha,r0⟩:=pr_ld (o.le.kold hg.p) hlt
  have hri:=o.le.kold (hg.pi i hlt).1
  rw [e0]
  refine ⟨⟨by omega,by omega⟩,b0,o0,ha,_,_,_,_,_,_,_,r0,fun z=>nq o.le fun y=>?_,fun z1=>⟨fun z=>nq o.le fun y=>?_,fun z2=>⟨fun z=>nq o.le fun y=>?_,fun z3=>?_⟩⟩⟩
  .have:=of_decide_eq_true z; have:=(y.pr i hlt).a; omega
  .have:=of_decide_eq_true z; have:=(y.pr i hlt).a; omega
  .have:=of_decide_eq_true z; have:=(y.pr i hlt).b; omega
  have p1:0<=g.prods[i].left/\g.prods[i].left<g.nts.length:=by have:=of_decide_eq_false z1; have:=of_decide_eq_false z2; omega
  have p2:g.prods[i].right.length<=5:=by have:=of_decide_eq_false z3; omega
  unfold vc40_L3
  refine ⟨fun k' a4 n5 n6 a7 n8 n9 a10 n11 n12 a13q n14 n15q x16 x17 a18 n19 n20 a21 n22 n23 x24 H25=>a4=g.ta/\n5=g.toks.length/\a7=g.na/\n8=g.nts.length/\a10=g.pa/\n11=g.prods.length/\a13q=a13'/\n14=(namesG g).length/\n15q=n15'/\H25=H17'/\x16=i/\a18=g.prods[i].ra/\n19=g.prods[i].right.length/\∃ j:Nat,x24=j/\j<=g.prods[i].right.length/\k'=g.prods[i].right.length-j/\∀ m (hm:m<g.prods[i].right.length),m<j->SymOk g.toks g.nts.length g.prods[i].right[m],⟨_,rfl,rfl,rfl,rfl,rfl,rfl,rfl,rfl,rfl,rfl,rfl,rfl,rfl,0,rfl,by omega,rfl,fun j _ z=>absurd z (by omega)⟩,?_⟩
  rintro k' a4 n5 n6'' a7 n8 n9'' a10 n11 n12'' a13q n14 n15q x16 x17 a18 n19 n20 a21 n22 n23 x24 H25 ⟨rfl,rfl,rfl,rfl,rfl,rfl,rfl,rfl,rfl,rfl,rfl,rfl,rfl,j,rfl,hj,rfl,hw⟩
  refine ⟨fun hlt2=>?_,fun hge2=>?_⟩
  .have hlt2:j<g.prods[i].right.length:=by have:=of_decide_eq_true hlt2; omega
   have e1:Int.toNat ((j:Nat):Int)=j:=by omega
   have hj1:IntKind.wrap .i64 (((j:Nat):Int)+1)=((j+1:Nat):Int):=by rw [wrap64 (by omega) (by omega)]; omega
   obtain ⟨b1,o1,ha1,r1⟩:=sy_ld hri hlt2
   have go:SymOk g.toks g.nts.length g.prods[i].right[j]->∀ m (hm:m<g.prods[i].right.length),m<j+1->SymOk g.toks g.nts.length g.prods[i].right[m]:=fun h m hm z=>by
    by_cases e:m=j
    .subst e; exact h
    .exact hw m hm (by omega)
   have no:¬ SymOk g.toks g.nts.length g.prods[i].right[j]->¬ MayG g:=fun h y=>h ((y.pr i hlt).c j hlt2)
   rw [e1,hj1]
   refine ⟨⟨by omega,by omega⟩,b1,o1,ha1,_,_,r1,fun z=>nq o.le (no fun y=>?_),fun z=>⟨fun zb=>⟨fun z4=>nq o.le (no fun y=>?_),fun z4=>?_⟩,fun zb=>⟨fun _=>⟨fun z4=>nq o.le (no fun y=>?_),fun z4=>?_⟩,fun z4=>?_⟩⟩⟩
   .have:=of_decide_eq_true z; have:=y.a; omega
   .have:=of_decide_eq_true z4
    obtain ⟨h,_⟩:=y.b zb
    omega
   .have z:=of_decide_eq_false z
    have z4:=of_decide_eq_false z4
    have hp:(g.prods[i].right[j]).pos.toNat<g.toks.length:=by omega
    obtain ⟨b2,o2,ha2,r2⟩:=tk_ld (o.le.kold hg.t) hp
    refine ⟨⟨by omega,by omega⟩,b2,o2,ha2,rfl,_,ldSub r2 2 1 (by simp),fun z5=>nq o.le (no fun y=>?_),fun z5=>⟨fun w=>(by rw [zb] at w; cases w),fun w=>?_⟩⟩
    .obtain ⟨_,h⟩:=y.b zb
     have z5:g.toks[(g.prods[i].right[j]).pos.toNat].skip=true:=z5
     rw [z5] at h; cases h
    .exact ⟨g.prods[i].right.length-(j+1),by omega,rfl,rfl,rfl,rfl,rfl,rfl,rfl,rfl,rfl,rfl,rfl,rfl,rfl,j+1,rfl,by omega,rfl,go ⟨by omega,fun _=>⟨hp,z5⟩,fun y=>(by rw [zb] at y; cases y)⟩⟩
   .have:=of_decide_eq_true z4
    have:=y.c zb
    omega
   .have z:=of_decide_eq_false z
    have z4:=of_decide_eq_false z4
    exact ⟨g.prods[i].right.length-(j+1),by omega,rfl,rfl,rfl,rfl,rfl,rfl,rfl,rfl,rfl,rfl,rfl,rfl,rfl,j+1,rfl,by omega,rfl,go ⟨by omega,fun y=>(by rw [zb] at y; cases y),fun _=>by omega⟩⟩
   .rw [zb] at z4; cases z4
  .have hge2:j=g.prods[i].right.length:=by have:=of_decide_eq_false hge2; omega
   subst hge2
   rw [hi1]
   refine ⟨g.prods.length-(i+1),by omega,rfl,rfl,rfl,rfl,rfl,rfl,rfl,rfl,rfl,rfl,i+1,rfl,by omega,rfl,fun m hm z=>?_⟩
   by_cases e:m=i
   .subst e; exact ⟨p1,p2,fun m' hm'=>hw m' hm' hm'⟩
   .exact hv m hm (by omega)
 .have hge:i=g.prods.length:=by have:=of_decide_eq_false hge; omega
  subst hge
  refine c62 ok o.row (by unfold namesG; simp; omega) (fun s hs=>?_) fun b hb=>⟨b,rfl,hq b H17' o.le ⟨fun y=>⟨y1,y2,y3,hb.1 y,hat,fun m hm=>hv m hm hm⟩,fun y=>hb.2 y.nm⟩⟩
  rcases List.mem_append.1 hs with q | q
  .obtain ⟨t,ht,rfl⟩:=List.mem_map.1 q
   obtain ⟨m,hm,rfl⟩:=List.mem_iff_getElem.1 ht
   exact hf.ts m hm
  .obtain ⟨t,ht,rfl⟩:=List.mem_map.1 q
   obtain ⟨m,hm,rfl⟩:=List.mem_iff_getElem.1 ht
   exact (hf.ns m hm).1
end
end Va
end Go.Proofs.Ytefiipkfppaibaa
namespace Go.Ew
open Go.Ev Go.Deep
structure Xi where
 a:Int
 b:Int
 c:Int
 s:ByteArray
 la:OA
 ln:Nat
 lc:Nat
 d:Int
 e:Int
 ma:OA
 mn:Nat
 mc:Nat
def xiC (x:Xi):List Value:=[.int .i64 x.a,.int .i64 x.b,.int .i64 x.c,.string x.s,.slice x.la x.ln x.lc,.int .i64 x.d,.int .i64 x.e,.slice x.ma x.mn x.mc]
def exC (l:List Xi):List Value:=l.flatMap xiC
theorem exC_app (l m:List Xi):exC (l++m)=exC l++exC m:=List.flatMap_append
theorem ex_ld {H:KH} {a:OA} {i:Nat} {l:List Xi} (h:kold H 8 a l.length=some (exC l)) (hi:i<l.length):∃ b o,a=some ⟨b,o,none⟩/\ld H ⟨b,o+i*8,none⟩ (xiC l[i]):=it_ld (k:=8) (f:=xiC) (fun _=>rfl) h hi
def tiX:TI:=⟨8,104,true,3,0,0,[(0,1),(1,4),(5,1),(6,1),(7,1)],[.int .i64 0,.int .i64 0,.int .i64 0,.string ⟨#[]⟩,.slice none 0 0,.int .i64 0,.int .i64 0,.slice none 0 0]⟩
def tiU:TI:=⟨10,120,true,3,0,0,[(0,1),(1,1),(2,8)],[.int .i64 0,.int .i64 0,.int .i64 0,.int .i64 0,.int .i64 0,.string ⟨#[]⟩,.slice none 0 0,.int .i64 0,.int .i64 0,.slice none 0 0]⟩
theorem St.write {Z H:KH} {p n c sz rn rc:Nat} {a ra:OA} {R:List Rr} {xs ys zs vs:List Value} (h:St Z H p a n c (⟨sz,ra,rn,rc,xs++ys++zs⟩ :: R)) (hy:ys.length=vs.length) (h0:0<(xs++ys++zs).length):∃ b o,ra=some ⟨b,o,none⟩/\ld H ⟨b,o+xs.length,none⟩ ys/\KH.may H b/\St Z (H.put ⟨b,o+xs.length,none⟩ vs) p a n c (⟨sz,ra,rn,rc,xs++vs++zs⟩ :: R):=by
 obtain ⟨b,o,e,f1,f2,f3,f4,_⟩:=h.r.write (vs:=vs) hy h0
 exact ⟨b,o,e,f1,f2,f3,h.e.up fun e q=>put_ne (fun z=>f4 z.symm) q⟩
abbrev T18:=Nat->Nat->Nat->OA->Nat->Nat->OA->Nat->Nat->OA->Nat->Nat->Int->OA->Nat->Nat->OA->Nat->Nat->OA->Nat->Nat->OA->Nat->Nat->Int->KH->Prop
end Go.Ew
namespace Go.Proofs.Ytefiipkfppaibaa
open Go.Ev Go.Ew
namespace Va
section
variable (ok : EnvOk (env Try.prog))
include ok
theorem c24 {Z H:KH} {p n c m:Nat} {a:OA} {R:List Rr} {Q:PQ} (hb:PkB Z a n) (h:St Z H p a n c R) (hm:0<m) (hq:∀ (x:Int) H',0<=x->x<m->St Z H' p a n c R->Q (.int .i64 x) H'):Does (env Try.prog) 24 [.pointer (some ⟨p,0,none⟩),.int .i64 ((m:Nat):Int)] H Q:=by
 obtain ⟨e,x,h1,h2,h3,h4,h5⟩:=h.e.ex
 have hn:=hb.n
 have full:ld H ⟨p,0,none⟩ [.slice a n c,.int .i64 x]:=⟨rfl,e,h1,h3⟩
 refine fn24 ok ⟨trivial,rfl,x,ldSub full 1 1 (by simp),rfl,a,n,c,ldSub full 0 1 (by simp),fun z=>hq 0 H (by omega) (by omega) h,fun z=>?_⟩
 have z:x<n:=by have:=of_decide_eq_false z; omega
 have e1:IntKind.wrap .i64 (x+1)=x+1:=wrap64 (by omega) (by omega)
 have e2:IntKind.wrap .i64 (x+1-1)=x:=by rw [wrap64 (by omega) (by omega)]; omega
 have hr:rd (wr e.cells 1 [.int .i64 (x+1)]) 0 2=some [.slice a n c,.int .i64 (x+1)]:=by
  have:=rdWr (e:=e.cells) (N:=2) (o:=1) (xs:=[.slice a n c]) (ys:=[.int .i64 x]) (zs:=[]) (vs:=[.int .i64 (x+1)]) h3 rfl rfl
  simpa using this
 have hp1:(H.put ⟨p,0+1,none⟩ [.int .i64 (x+1)]) p=some ⟨wr e.cells (0+1) [.int .i64 (x+1)],e.len,e.unk,none⟩:=put_at h1
 have full2:ld (H.put ⟨p,0+1,none⟩ [.int .i64 (x+1)]) ⟨p,0,none⟩ [.slice a n c,.int .i64 (x+1)]:=⟨rfl,_,hp1,hr⟩
 have hst:St Z (H.put ⟨p,0+1,none⟩ [.int .i64 (x+1)]) p a n c R:=⟨h.r.step fun k e' k1 q=>put_ne k1 q,⟨_,x+1,hp1,wrB_keep h2,hr,by omega,by omega⟩⟩
 obtain ⟨b,o,y,ha,hy,y1,y2⟩:=hb.b x.toNat (by omega)
 have ey:IntKind.wrap .i64 y=y:=wrap64 (by omega) (by omega)
 refine ⟨rfl,x,ldSub full 1 1 (by simp),rfl,⟨[.int .i64 x],rfl,ldSub full 1 1 (by simp)⟩,⟨e,h1,h2⟩,trivial,?_⟩
 rw [e1]
 refine ⟨rfl,a,n,c,ldSub full2 0 1 (by simp),rfl,x+1,ldSub full2 1 1 (by simp),?_⟩
 rw [e2]
 refine ⟨⟨by omega,by omega⟩,b,o,ha,y,?_,by omega,?_⟩
 .rw [Nat.mul_one]
  exact hst.r.le.ld hy
 .rw [ey]
  exact hq _ _ (Int.tmod_nonneg _ y1) (Int.tmod_lt_of_pos _ (by omega)) hst
theorem c9 {a:OA} {n c:Nat} {H:KH} {Q:PQ} (hb:PkB H a n) (hq:∀ p H',H p=none->St H H' p a n c []->Q (.pointer (some ⟨p,0,none⟩)) H'):Does (env Try.prog) 9 [.slice a n c] H Q :=
 fn9 ok fun n1 h1=>hq n1 _ h1 ⟨.nil (Le.new h1) h1,⟨mkEnt [.slice a n c,.int .i64 0] 0,0,if_pos rfl,rfl,mk_rd (cs:=[.slice a n c,.int .i64 0]) (u:=0),by omega,by omega⟩⟩
theorem c27 {k x:Int} {s:ByteArray} {a:OA} {n c:Nat} {H:KH} {Q:PQ} (hq:Q (.agg #[.int .i64 0,.int .i64 k,.int .i64 x,.string s,.slice a n c,.int .i64 0,.int .i64 0,.slice none 0 0]) H):Does (env Try.prog) 27 [.agg #[.int .i64 k,.int .i64 x,.string s,.slice a n c]] H Q:=fn27 ok hq
theorem c28 {x y:Int} {H:KH} {Q:PQ} (hq:Q (.agg #[.int .i64 1,.int .i64 0,.int .i64 0,.string ⟨#[]⟩,.slice none 0 0,.int .i64 x,.int .i64 y,.slice none 0 0]) H):Does (env Try.prog) 28 [.int .i64 x,.int .i64 y] H Q:=fn28 ok hq
theorem c45 {ta na pa:OA} {tn tc nc pn pc:Nat} {nts:List Nt} {x:Int} {H:KH} {Q:PQ} (hn:kold H 3 na nts.length=some (ntC nts)) (hs:∀ i (h:i<nts.length),nts[i].inh.length+nts[i].syn.length<=4) (hq:∀ (y:Int),0<=y->y<=4->Q (.int .i64 y) H):Does (env Try.prog) 45 [.agg #[.slice ta tn tc,.slice na nts.length nc,.slice pa pn pc],.int .i64 x] H Q:=by
 refine fn45 ok ⟨fun z=>hq 0 (by omega) (by omega),fun z=>⟨fun z2=>hq 0 (by omega) (by omega),fun z2=>?_⟩⟩
 have z:=of_decide_eq_false z
 have z2:=of_decide_eq_false z2
 obtain ⟨b,o,ha,r⟩:=nt_ld hn (i:=x.toNat) (by omega)
 have:=hs x.toNat (by omega)
 refine ⟨trivial,⟨by omega,by omega⟩,b,o,ha,rfl,_,_,_,ldSub r 1 1 (by simp),⟨by omega,by omega⟩,b,o,ha,rfl,_,_,_,ldSub r 2 1 (by simp),?_⟩
 rw [wrap64 (by omega) (by omega)]
 exact hq _ (by omega) (by omega)
theorem c46 {ta na pa:OA} {tn tc nc pn pc:Nat} {nts:List Nt} {x y:Int} {H:KH} {Q:PQ} (hn:kold H 3 na nts.length=some (ntC nts)) (hq:∀ b,Q (.bool b) H):Does (env Try.prog) 46 [.agg #[.slice ta tn tc,.slice na nts.length nc,.slice pa pn pc],.int .i64 x,.int .i64 y] H Q:=by
 refine fn46 ok ⟨fun z=>⟨fun z2=>⟨fun z3=>?_,fun _=>hq _⟩,fun _=>hq _⟩,fun _=>hq _⟩
 have z:=of_decide_eq_true z
 have z2:=of_decide_eq_true z2
 obtain ⟨b,o,ha,r⟩:=nt_ld hn (i:=x.toNat) (by omega)
 exact ⟨⟨by omega,by omega⟩,b,o,ha,rfl,_,_,_,ldSub r 1 1 (by simp),hq _⟩
theorem l18 {Z H:KH} {p n c:Nat} {a:OA} {nts:List Nt} {na:OA} {right:List Sy} {occ:Nat} {nt:Int} (hb:PkB Z a n) (hn:kold Z 3 na nts.length=some (ntC nts)) (hs:∀ i (h:i<nts.length),nts[i].inh.length+nts[i].syn.length<=4) (ho:occ<=100)
 {a6 a12 a16 a19 a22 a25:OA} {n7 n8 n11 n13 n14 n17 n18 n20 n21 n23 n24 n26 n27:Nat} {x15:Int} {os:List Value} {ins:List Xi} (h:St Z H p a n c [⟨10,a22,n23,n24,os⟩,⟨8,a25,n26,n27,exC ins⟩]) (hc:n23+n26<=5*occ) {k0:Nat} (hk:0<k0) {cont:T18}
 (hq:∀ a22 n23 n24 a25 n26 n27 os ins H',St Z H' p a n c [⟨10,a22,n23,n24,os⟩,⟨8,a25,n26,n27,exC ins⟩]->n23+n26<=5*(occ+1)->cont (k0-1) p 0 a6 n7 n8 na nts.length n11 a12 n13 n14 x15 a16 n17 n18 a19 n20 n21 a22 n23 n24 a25 n26 n27 ((occ+1:Nat):Int) H') :
 vc26_L1 p 0 a6 n7 n8 na nts.length n11 a12 n13 n14 x15 a16 n17 n18 a19 n20 n21 a22 n23 n24 a25 n26 n27 ((occ:Nat):Int) nt H k0 cont:=by
 unfold vc26_L1
 refine ⟨fun k n4 n5 b6 m7 m8 a9 n10 m11 b12 m13 m14 y15 b16 m17 m18 b19 m20 m21 a22 n23 n24 a25 n26 n27 x28 x29 x30 H=>n4=p/\n5=0/\b6=a6/\m7=n7/\m8=n8/\a9=na/\n10=nts.length/\m11=n11/\b12=a12/\m13=n13/\m14=n14/\y15=x15/\b16=a16/\m17=n17/\m18=n18/\b19=a19/\m20=n20/\m21=n21/\x28=occ/\x29=nt/\∃ j:Nat,x30=j/\j<=4/\k=4-j/\n23+n26<=5*occ+j/\∃ os ins,St Z H p a n c [⟨10,a22,n23,n24,os⟩,⟨8,a25,n26,n27,exC ins⟩],⟨4,rfl,rfl,rfl,rfl,rfl,rfl,rfl,rfl,rfl,rfl,rfl,rfl,rfl,rfl,rfl,rfl,rfl,rfl,rfl,rfl,rfl,0,rfl,by omega,rfl,by omega,os,ins,h⟩,?_⟩
 rintro k n4 n5 b6 m7 m8 a9 n10 m11 b12 m13 m14 y15 b16 m17 m18 b19 m20 m21 a22 n23 n24 a25 n26 n27 x28 x29 x30 H ⟨rfl,rfl,rfl,rfl,rfl,rfl,rfl,rfl,rfl,rfl,rfl,rfl,rfl,rfl,rfl,rfl,rfl,rfl,rfl,rfl,j,rfl,hj,rfl,hc,os,ins,h⟩
 have hj1:IntKind.wrap .i64 (((j:Nat):Int)+1)=((j+1:Nat):Int):=by rw [wrap64 (by omega) (by omega)]; omega
 refine c45 ok (h.r.le.kold hn) hs fun y y0 y4=>⟨y,rfl,fun z=>?_,fun z=>?_⟩
 .have z:=of_decide_eq_true z
  unfold vc26_J0
  refine c46 ok (h.r.le.kold hn) fun b=>⟨b,rfl,fun _=>c28 ok ⟨_,_,_,_,_,_,_,_,_,_,_,_,rfl,fun n18 h18 n19 h19=>⟨_,_,knew_of (ti:=tiX) (lit_kold (if_pos rfl) rfl),?_⟩⟩,fun _=>fun n27 h27 n28 h28=>⟨_,_,knew_of (ti:=tiU) (lit_kold (if_pos rfl) rfl),?_⟩⟩
  .obtain ⟨a5,c5,H5,f1,f2⟩:=((h.new h18).perm (.swap _ _ _)).app (ti:=tiX) (nm:=n19) (m:=1) (new:=xiC ⟨1,0,0,⟨#[]⟩,none,0,0,((occ:Nat):Int),((j:Nat):Int),none,0,0⟩) h19 rfl rfl (by show n26+1<=_; omega) (by decide) (by decide)
   refine ⟨a5,_,c5,H5,f1,4-(j+1),by omega,rfl,rfl,rfl,rfl,rfl,rfl,rfl,rfl,rfl,rfl,rfl,rfl,rfl,rfl,rfl,rfl,rfl,rfl,rfl,rfl,rfl,j+1,hj1,by omega,rfl,by show n23+(n26+1)<=_; omega,os,ins++[⟨1,0,0,⟨#[]⟩,none,0,0,((occ:Nat):Int),((j:Nat):Int),none,0,0⟩],?_⟩
   rw [exC_app]
   exact f2.perm (.swap _ _ _)
  .obtain ⟨a5,c5,H5,f1,f2⟩:=(h.new h27).app (ti:=tiU) (nm:=n28) (m:=1) (new:=[.int .i64 ((occ:Nat):Int),.int .i64 ((j:Nat):Int),.int .i64 0,.int .i64 0,.int .i64 0,.string ⟨#[]⟩,.slice none 0 0,.int .i64 0,.int .i64 0,.slice none 0 0]) h28 rfl rfl (by show n23+1<=_; omega) (by decide) (by decide)
   exact ⟨a5,_,c5,H5,f1,4-(j+1),by omega,rfl,rfl,rfl,rfl,rfl,rfl,rfl,rfl,rfl,rfl,rfl,rfl,rfl,rfl,rfl,rfl,rfl,rfl,rfl,rfl,rfl,j+1,hj1,by omega,rfl,by show (n23+1)+n26<=_; omega,_,ins,f2⟩
 .have ho1:IntKind.wrap .i64 (((occ:Nat):Int)+1)=((occ+1:Nat):Int):=by rw [wrap64 (by omega) (by omega)]; omega
  rw [ho1]
  exact ⟨k0-1,by omega,rfl,hq _ _ _ _ _ _ os ins _ h (by omega)⟩
theorem c26 {Z H:KH} {p n c:Nat} {a:OA} {nts:List Nt} {na ra ta pa ua:OA} {tn tc nc pn pc rc un uc:Nat} {right:List Sy} {left:Int} {Q:PQ} (hb:PkB Z a n) (h:St Z H p a n c []) (hn:kold Z 3 na nts.length=some (ntC nts)) (hs:∀ i (h:i<nts.length),nts[i].inh.length+nts[i].syn.length<=4) (hr:kold Z 2 ra right.length=some (syC right)) (hrl:right.length<=50)
 (hq:∀ a' n' c' H',St Z H' p a n c []->Q (.slice a' n' c') H'):Does (env Try.prog) 26 [.pointer (some ⟨p,0,none⟩),.agg #[.slice ta tn tc,.slice na nts.length nc,.slice pa pn pc],.agg #[.int .i64 left,.slice ra right.length rc,.slice ua un uc]] H Q:=by
 refine fn26 ok ?_
 show vc26_L9 _ _ _ _ _ _ _ _ _ _ _ _ _ _ _ _ _ _ _ _
 unfold vc26_L9
 refine ⟨fun k n4 n5 a6 n7 n8 a9 n10 n11 a12 n13 n14 x15 a16 n17 n18 a19 n20 n21 a22 n23 n24 a25 n26 n27 x28 H=>n4=p/\n5=0/\a9=na/\n10=nts.length/\a16=ra/\n17=right.length/\∃ occ:Nat,x28=occ/\occ<=right.length+1/\k=right.length+1-occ/\n23+n26<=5*occ/\∃ os ins,St Z H p a n c [⟨10,a22,n23,n24,os⟩,⟨8,a25,n26,n27,exC ins⟩],⟨_,rfl,rfl,rfl,rfl,rfl,rfl,rfl,0,rfl,by omega,rfl,by omega,[],[],h.none_.none_⟩,?_⟩
 rintro k n4 n5 a6 n7 n8 a9 n10 n11 a12 n13 n14 x15 a16 n17 n18 a19 n20 n21 a22 n23 n24 a25 n26 n27 x28 H ⟨rfl,rfl,rfl,rfl,rfl,rfl,occ,rfl,hocc,rfl,hc,os,ins,h⟩
 refine ⟨fun z=>?_,fun z=>?_⟩
 .have z:occ<=right.length:=by have:=of_decide_eq_true z; omega
  have ho1:IntKind.wrap .i64 (((occ:Nat):Int)+1)=((occ+1:Nat):Int):=by rw [wrap64 (by omega) (by omega)]; omega
  have L:∀ nt,vc26_L1 n4 0 a6 n7 n8 a9 nts.length n11 a12 n13 n14 x15 a16 right.length n18 a19 n20 n21 a22 n23 n24 a25 n26 n27 ((occ:Nat):Int) nt H (right.length+1-occ) (fun k n4' n5 a6 n7 n8 a9' n10 n11 a12 n13 n14 x15 a16' n17 n18 a19 n20 n21 a22 n23 n24 a25 n26 n27 x28 H=>n4'=n4/\n5=0/\a9'=a9/\n10=nts.length/\a16'=a16/\n17=right.length/\∃ occ:Nat,x28=occ/\occ<=right.length+1/\k=right.length+1-occ/\n23+n26<=5*occ/\∃ os ins,St Z H n4 a n c [⟨10,a22,n23,n24,os⟩,⟨8,a25,n26,n27,exC ins⟩]):=fun nt =>
   l18 ok (right:=right) hb hn hs (by omega) h hc (by omega) fun a22 n23 n24 a25 n26 n27 os ins H' h' hc'=>⟨rfl,rfl,rfl,rfl,rfl,rfl,occ+1,rfl,by omega,by omega,hc',os,ins,h'⟩
  refine ⟨fun z2=>?_,fun z2=>L x15⟩
  have z2:0<occ:=by have:=of_decide_eq_true z2; omega
  have em:IntKind.wrap .i64 (((occ:Nat):Int)-1)=((occ-1:Nat):Int):=by rw [wrap64 (by omega) (by omega)]; omega
  have et:Int.toNat ((occ-1:Nat):Int)=occ-1:=by omega
  obtain ⟨b0,o0,ha,r0⟩:=sy_ld (h.r.le.kold hr) (i:=occ-1) (by omega)
  rw [em,et]
  refine ⟨⟨by omega,by omega⟩,b0,o0,ha,rfl,_,ldSub r0 1 1 (by simp),⟨by omega,by omega⟩,b0,o0,ha,rfl,_,ldSub r0 0 1 (by simp),fun _=>fun n7' h7 n8' h8=>⟨_,_,knew_of (ti:=tiX) (lit_kold (if_pos rfl) rfl),?_⟩,fun _=>L _⟩
  obtain ⟨a5,c5,H5,f1,f2⟩:=((h.new h7).perm (.swap _ _ _)).app (ti:=tiX) (nm:=n8') (m:=1) (new:=xiC ⟨2,0,0,⟨#[]⟩,none,0,0,((occ:Nat):Int),0,none,0,0⟩) h8 rfl rfl (by show n26+1<=_; omega) (by decide) (by decide)
  refine ⟨a5,_,c5,H5,f1,right.length+1-(occ+1),by omega,rfl,rfl,rfl,rfl,rfl,rfl,rfl,occ+1,ho1,by omega,rfl,by show n23+(n26+1)<=_; omega,os,ins++[⟨2,0,0,⟨#[]⟩,none,0,0,((occ:Nat):Int),0,none,0,0⟩],?_⟩
  rw [exC_app]
  exact f2.perm (.swap _ _ _)
 .clear z hn hr hs
  obtain ⟨Z',hZ,h',hin⟩:=(h.perm (.swap _ _ _)).freeze
  clear h
  have h:=h'
  clear h'
  have hin:kold Z' 8 a25 n26=some (exC ins):=hin
  have el:n26=ins.length:=len_of (k:=8) (f:=xiC) (fun _=>rfl) (by decide) hin
  subst el
  have hb:=hb.up hZ
  have hq:∀ a' n' c' H',St Z' H' n4 a n c []->Q (.slice a' n' c') H':=fun a' n' c' H' s=>hq a' n' c' H' ⟨s.r.base (hZ.trans s.r.le) (hZ.none s.r.zp) (fun r q=>by cases q),s.e⟩
  have hn23:n23<=1000:=by omega
  clear hc hrl hocc hZ
  unfold vc26_L8
  refine ⟨fun k m4 n5 a6 n7 n8 a9 n10 n11 x12 H13=>m4=n4/\n5=0/\a6=a22/\n7=n23/\n8=n24/\a9=a25/\n10=ins.length/\∃ i:Nat,x12=i/\i<=n23/\k=n23-i/\∃ os,St Z' H13 n4 a n c [⟨10,a22,n23,n24,os⟩],⟨_,rfl,rfl,rfl,rfl,rfl,rfl,rfl,rfl,0,rfl,by omega,rfl,os,h⟩,?_⟩
  clear h
  rintro k m4 n5 a6 n7 n8 a9 n10 n11 x12 H13 ⟨rfl,rfl,rfl,rfl,rfl,rfl,rfl,i,rfl,hi,rfl,os,h⟩
  refine ⟨fun z=>?_,fun z=>hq _ _ _ _ h.tail⟩
  have hlt:i<n7:=by have:=of_decide_eq_true z; omega
  have e0:Int.toNat ((i:Nat):Int)=i:=by omega
  have hi1:IntKind.wrap .i64 (((i:Nat):Int)+1)=((i+1:Nat):Int):=by rw [wrap64 (by omega) (by omega)]; omega
  refine c24 ok (m:=5) hb h (by decide) fun x3 H2 x30 x31 h=>⟨x3,rfl,c27 ok ⟨_,_,_,_,_,_,_,_,_,_,_,_,rfl,c24 ok (m:=3) hb h (by decide) fun x20 H19 x0 x1 h=>⟨x20,rfl,?_⟩⟩⟩
  unfold vc26_L6
  refine ⟨fun k m4' n5 a6' n7' n8' a9' n10 n11 x12 x13 x14 x15 s16 a17 n18 n19 x20 x21 a22 n23 n24 x25 H26=>m4'=m4/\n5=0/\a6'=a6/\n7'=n7/\n8'=n8/\a9'=a9/\n10=ins.length/\x12=i/\0<=x25/\x25<=3/\k=x25.toNat/\∃ os,St Z' H26 m4 a n c [⟨10,a6,n7,n8,os⟩],⟨_,rfl,rfl,rfl,rfl,rfl,rfl,rfl,rfl,rfl,x0,by omega,rfl,os,h⟩,?_⟩
  clear h
  rintro k m4' n5 a6' n7' n8' a9' n10 n11' x12 x13 x14 x15 s16 a17 n18 n19 x20 x21 a22 n23 n24 x25 H26 ⟨rfl,rfl,rfl,rfl,rfl,rfl,rfl,rfl,w0,w3,rfl,os,h⟩
  have J:∀ n11',vc26_J5 ((i:Nat):Int) n7' a6' x13 x14 x15 s16 a17 n18 n19 x20 x21 a22 n23 n24 H26 (n7'-i) (fun k m4 n5 a6 n7 n8 a9 n10 n11 x12 H13=>m4=m4'/\n5=0/\a6=a6'/\n7=n7'/\n8=n8'/\a9=a9'/\n10=ins.length/\∃ i:Nat,x12=i/\i<=n7'/\k=n7'-i/\∃ os,St Z' H13 m4' a n c [⟨10,a6',n7',n8',os⟩]) m4' 0 n8' a9' ins.length n11':=fun n11'=>by
   unfold vc26_J5
   have hol:=kold_len h.r.head.row
   have hol:os.length=n7'*10:=hol
   have hsp:os=os.take (i*10+2)++(os.drop (i*10+2)).take 8++os.drop (i*10+10):=by
    rw [List.append_assoc,show os.drop (i*10+10)=(os.drop (i*10+2)).drop 8 by rw [List.drop_drop],List.take_append_drop,List.take_append_drop]
   have l1:(os.take (i*10+2)).length=i*10+2:=by rw [List.length_take]; omega
   have l2:((os.drop (i*10+2)).take 8).length=8:=by rw [List.length_take,List.length_drop]; omega
   rw [hsp] at h
   obtain ⟨b,o,ea,f1,f2,f3⟩:=h.write (vs:=[.int .i64 x13,.int .i64 x14,.int .i64 x15,.string s16,.slice a17 n18 n19,.int .i64 x20,.int .i64 x21,.slice a22 n23 n24]) l2 (by rw [<- hsp]; omega)
   rw [l1,<- Nat.add_assoc] at f1 f3
   rw [e0,hi1]
   exact ⟨⟨by omega,by omega⟩,b,o,ea,rfl,⟨_,l2,f1⟩,f2,n7'-(i+1),by omega,rfl,rfl,rfl,rfl,rfl,rfl,rfl,rfl,i+1,rfl,by omega,rfl,_,f3⟩
  refine ⟨fun z=>⟨fun z2=>⟨trivial,fun n1 h1=>?_⟩,fun _=>J _⟩,fun _=>J _⟩
  clear J
  have z:=of_decide_eq_true z
  have z2:0<ins.length:=by have:=of_decide_eq_true z2; omega
  rw [hide_new h1]
  refine c24 ok (m:=4) hb h (by decide) fun x4 H3 x40 x41 h=>⟨x4,rfl,fun h3=>⟨⟨rfl,rfl,rfl,rfl,rfl,trivial⟩,⟨by omega,by omega⟩,n1,0,rfl,?_⟩⟩
  rw [back_new,hide_new h3]
  have hl:∀ H:KH,kold (H.new n1 (mkEnt [.int .i64 4,.int .i64 7,.int .i64 13,.int .i64 14] 0)) 1 (some ⟨n1,0,none⟩) ([4,7,13,14]:List Int).length=some (inC [4,7,13,14]):=fun H=>lit_kold (if_pos rfl) rfl
  obtain ⟨b2,o2,e2,r2⟩:=in_ld (hl H3) (i:=x4.toNat) (by show _<4; omega)
  cases e2
  refine ⟨_,r2,c24 ok (m:=ins.length) hb h z2 fun x10 H9 x100 x101 h=>⟨x10,rfl,fun h9=>?_⟩⟩
  rw [back_new]
  obtain ⟨b3,o3,e3,r3⟩:=in_ld (hl H9) (i:=x4.toNat) (by show _<4; omega)
  cases e3
  obtain ⟨b4,o4,e4,r4⟩:=ex_ld ((h.new (E:=mkEnt [.int .i64 4,.int .i64 7,.int .i64 13,.int .i64 14] 0) h9).r.le.kold hin) (i:=x10.toNat) (by omega)
  have ew:IntKind.wrap .i64 (x25-1)=x25-1:=wrap64 (by omega) (by omega)
  refine ⟨⟨⟨⟨by omega,by omega⟩,n1,0,rfl,rfl⟩,⟨_,r3,rfl⟩,rfl,rfl,trivial⟩,⟨by omega,by omega⟩,b4,o4,e4,_,_,_,_,_,_,_,_,_,_,_,_,r4,fun n28 h28=>⟨trivial,(x25-1).toNat,by omega,rfl,rfl,rfl,rfl,rfl,rfl,rfl,rfl,rfl,?_⟩⟩
  rw [ew]
  exact ⟨by omega,by omega,rfl,os,(h.new h9).new h28⟩
end
end Va
end Go.Proofs.Ytefiipkfppaibaa
