import Derived.Test.YtibkijpnkmccpaaEwS4
import Derived.Test.YtibkijpnkmccpaaEwVc1
set_option linter.unusedVariables false
set_option linter.unusedSimpArgs false
namespace Go.Ew
open Go.Ev Go.Deep
structure Sy where
 tok:Bool
 pos:Int
structure Tk where
 name:ByteArray
 rex:ByteArray
 skip:Bool
structure Nt where
 name:ByteArray
 ia:OA
 ic:Nat
 inh:List ByteArray
 sa:OA
 sc:Nat
 syn:List ByteArray
structure Pr where
 left:Int
 ra:OA
 rc:Nat
 right:List Sy
 ua:OA
 un:Nat
 uc:Nat
structure Gm where
 ta:OA
 tc:Nat
 toks:List Tk
 na:OA
 nc:Nat
 nts:List Nt
 pa:OA
 pc:Nat
 prods:List Pr
def syC (l:List Sy):List Value:=l.flatMap fun s=>[.bool s.tok,.int .i64 s.pos]
def tkC (l:List Tk):List Value:=l.flatMap fun t=>[.string t.name,.string t.rex,.bool t.skip]
def ntC (l:List Nt):List Value:=l.flatMap fun x=>[.string x.name,.slice x.ia x.inh.length x.ic,.slice x.sa x.syn.length x.sc]
def prC (l:List Pr):List Value:=l.flatMap fun x=>[.int .i64 x.left,.slice x.ra x.right.length x.rc,.slice x.ua x.un x.uc]
def gv (g:Gm):Value:=.agg #[.slice g.ta g.toks.length g.tc,.slice g.na g.nts.length g.nc,.slice g.pa g.prods.length g.pc]
section
variable {H : KH} {a : OA} {i : Nat}
theorem sy_ld {l:List Sy} (h:kold H 2 a l.length=some (syC l)) (hi:i<l.length):∃ b o,a=some ⟨b,o,none⟩/\ld H ⟨b,o+i*2,none⟩ [.bool l[i].tok,.int .i64 l[i].pos]:=it_ld (k:=2) (f:=fun (s:Sy)=>[.bool s.tok,.int .i64 s.pos]) (fun _=>rfl) h hi
theorem tk_ld {l:List Tk} (h:kold H 3 a l.length=some (tkC l)) (hi:i<l.length):∃ b o,a=some ⟨b,o,none⟩/\ld H ⟨b,o+i*3,none⟩ [.string l[i].name,.string l[i].rex,.bool l[i].skip]:=it_ld (k:=3) (f:=fun (t:Tk)=>[.string t.name,.string t.rex,.bool t.skip]) (fun _=>rfl) h hi
theorem nt_ld {l:List Nt} (h:kold H 3 a l.length=some (ntC l)) (hi:i<l.length):∃ b o,a=some ⟨b,o,none⟩/\ld H ⟨b,o+i*3,none⟩ [.string l[i].name,.slice l[i].ia l[i].inh.length l[i].ic,.slice l[i].sa l[i].syn.length l[i].sc]:=it_ld (k:=3) (f:=fun (x:Nt)=>[.string x.name,.slice x.ia x.inh.length x.ic,.slice x.sa x.syn.length x.sc]) (fun _=>rfl) h hi
theorem pr_ld {l:List Pr} (h:kold H 3 a l.length=some (prC l)) (hi:i<l.length):∃ b o,a=some ⟨b,o,none⟩/\ld H ⟨b,o+i*3,none⟩ [.int .i64 l[i].left,.slice l[i].ra l[i].right.length l[i].rc,.slice l[i].ua l[i].un l[i].uc]:=it_ld (k:=3) (f:=fun (x:Pr)=>[.int .i64 x.left,.slice x.ra x.right.length x.rc,.slice x.ua x.un x.uc]) (fun _=>rfl) h hi
end
def NtsI (H:KH) (l:List Nt):Prop:=∀ i (h:i<l.length),kold H 1 l[i].ia l[i].inh.length=some (sC l[i].inh)/\kold H 1 l[i].sa l[i].syn.length=some (sC l[i].syn)
structure CutI (H:KH) (a:OA) (c:Nat) (l:List Sy):Prop where
 cut:∀ m,m<=l.length->∃ a' c',kslice H 2 a l.length c (some (.int .i64 (m:Int))) none=some (.slice a' (l.length-m) c')/\kold H 2 a' (l.length-m)=some (syC (l.drop m))
theorem CutI.up {H H':KH} {a:OA} {c:Nat} {l:List Sy} (h:CutI H a c l) (hl:Le H H'):CutI H' a c l:=⟨fun m hm=>by
 obtain ⟨a',c',h1,h2⟩:=h.cut m hm
 exact ⟨a',c',hl.kslice h1,hl.kold h2⟩⟩
theorem syC_drop (l:List Sy) (m:Nat):(syC l).drop (m*2)=syC (l.drop m):=(fm_cut (k:=2) (f:=fun (s:Sy)=>[.bool s.tok,.int .i64 s.pos]) (fun _=>rfl) l m).1
theorem CutI.grown {H:KH} {a:OA} {c:Nat} {l:List Sy} (h:Gs H 2 a l.length c (syC l)):CutI H a c l:=⟨fun m hm=>by
 obtain ⟨a',c',h1,h2⟩:=h.cutAt hm (by decide)
 exact ⟨a',c',h1,by rw [h2,syC_drop]⟩⟩
theorem CutI.lit {H:KH} {b o:Nat} {l:List Sy} (h:kold H 2 (some ⟨b,o,none⟩) l.length=some (syC l)) (hu:l.length<unkU):CutI H (some ⟨b,o,none⟩) l.length l:=⟨fun m hm=>by
 obtain ⟨a',c',h1,h2⟩:=cutLit h hm hu
 exact ⟨a',c',h1,by rw [h2,syC_drop]⟩⟩
theorem CutI.nil {H:KH}:CutI H none 0 []:=⟨fun m hm=>by
 have:m=0:=by simpa using hm
 subst this
 exact ⟨none,0,rfl,rfl⟩⟩
def PrsI (H:KH) (l:List Pr):Prop:=∀ i (h:i<l.length),kold H 2 l[i].ra l[i].right.length=some (syC l[i].right)/\CutI H l[i].ra l[i].rc l[i].right
theorem NtsI.up {H H':KH} {l:List Nt} (h:NtsI H l) (hl:Le H H'):NtsI H' l:=fun i hi=>⟨hl.kold (h i hi).1,hl.kold (h i hi).2⟩
theorem PrsI.up {H H':KH} {l:List Pr} (h:PrsI H l) (hl:Le H H'):PrsI H' l:=fun i hi=>⟨hl.kold (h i hi).1,(h i hi).2.up hl⟩
structure GI (H:KH) (g:Gm):Prop where
 t:kold H 3 g.ta g.toks.length=some (tkC g.toks)
 n:kold H 3 g.na g.nts.length=some (ntC g.nts)
 p:kold H 3 g.pa g.prods.length=some (prC g.prods)
 ni:NtsI H g.nts
 pi:PrsI H g.prods
theorem GI.up {H H':KH} {g:Gm} (h:GI H g) (hl:Le H H'):GI H' g:=⟨hl.kold h.t,hl.kold h.n,hl.kold h.p,h.ni.up hl,h.pi.up hl⟩
structure Few (g:Gm):Prop where
 t:g.toks.length<=1000
 n:g.nts.length<=1000
 p:g.prods.length<=1000
 ts:∀ i (h:i<g.toks.length),g.toks[i].name.size<=140737488355328
 ns:∀ i (h:i<g.nts.length),g.nts[i].name.size<=140737488355328/\g.nts[i].inh.length<=1000/\g.nts[i].syn.length<=1000/\(∀ s∈g.nts[i].inh,s.size<=140737488355328)/\∀ s∈g.nts[i].syn,s.size<=140737488355328
 ps:∀ i (h:i<g.prods.length),g.prods[i].right.length<=1000
structure NameOk (s:ByteArray):Prop where
 a:1<=s.size
 b:s.size<=8
 c:∀ i,i<s.size->(97<=byteAt s i/\byteAt s i<=122)\/(0<i/\48<=byteAt s i/\byteAt s i<=57)
structure NamesOk (l:List ByteArray):Prop where
 a:∀ i (h:i<l.length),NameOk l[i]
 b:∀ i (h:i<l.length) j (h2:j<i),l[i]≠l[j]'(by omega)
structure SymOk (T:List Tk) (N:Nat) (s:Sy):Prop where
 a:0<=s.pos
 b:s.tok=true->∃ h:s.pos.toNat<T.length,T[s.pos.toNat].skip=false
 c:s.tok=false->s.pos<N
structure AttrsOk (x:Nt):Prop where
 a:x.inh.length+x.syn.length<=4
 b:NamesOk (x.inh++x.syn)
structure ProdOk (T:List Tk) (N:Nat) (p:Pr):Prop where
 a:0<=p.left/\p.left<N
 b:p.right.length<=5
 c:∀ i (h:i<p.right.length),SymOk T N p.right[i]
def namesG (g:Gm):List ByteArray:=g.toks.map Tk.name++g.nts.map Nt.name
structure MayG (g:Gm):Prop where
 t:1<=g.toks.length/\g.toks.length<=8
 n:1<=g.nts.length/\g.nts.length<=8
 p:1<=g.prods.length/\g.prods.length<=16
 nm:NamesOk (namesG g)
 at_:∀ i (h:i<g.nts.length),AttrsOk g.nts[i]
 pr:∀ i (h:i<g.prods.length),ProdOk g.toks g.nts.length g.prods[i]
def SameN (x y:Nt):Prop:=x.name=y.name/\x.inh=y.inh/\x.syn=y.syn
def SameP (x y:Pr):Prop:=x.left=y.left/\x.right=y.right
structure SameG (g h:Gm):Prop where
 t:g.toks=h.toks
 n:∃ e:g.nts.length=h.nts.length,∀ i (h1:i<g.nts.length),SameN g.nts[i] (h.nts[i]'(by omega))
 p:∃ e:g.prods.length=h.prods.length,∀ i (h1:i<g.prods.length),SameP g.prods[i] (h.prods[i]'(by omega))
end Go.Ew
namespace Go.Proofs.Ytibkijpnkmccpaa
open Go.Ev Go.Ew
namespace Va
section
variable (ok : EnvOk (env Try.prog))
include ok
theorem c31 {v:Value} {H:KH} {Q:PQ} {g:Gm} (hq:Q (gv g) H):Does (env Try.prog) 31 [gv g] H Q:=fn31 ok hq
theorem c38 {a:OA} {n c:Nat} {x y:Int} {H:KH} {Q:PQ} (hq:∀ b,(b=true↔(x<=n/\n<=y))->Q (.bool b) H):Does (env Try.prog) 38 [.slice a n c,.int .i64 x,.int .i64 y] H Q :=
 fn38 ok ⟨fun h=>hq _ (by have:=of_decide_eq_true h; simp [this]),fun h=>hq _ (by have:=of_decide_eq_false h; simp [this])⟩
theorem c39 {a:OA} {n c:Nat} {x y:Int} {H:KH} {Q:PQ} (hq:∀ b,(b=true↔(x<=n/\n<=y))->Q (.bool b) H):Does (env Try.prog) 39 [.slice a n c,.int .i64 x,.int .i64 y] H Q :=
 fn39 ok ⟨fun h=>hq _ (by have:=of_decide_eq_true h; simp [this]),fun h=>hq _ (by have:=of_decide_eq_false h; simp [this])⟩
theorem c40 {a:OA} {n c:Nat} {x y:Int} {H:KH} {Q:PQ} (hq:∀ b,(b=true↔(x<=n/\n<=y))->Q (.bool b) H):Does (env Try.prog) 40 [.slice a n c,.int .i64 x,.int .i64 y] H Q :=
 fn40 ok ⟨fun h=>hq _ (by have:=of_decide_eq_true h; simp [this]),fun h=>hq _ (by have:=of_decide_eq_false h; simp [this])⟩
theorem c57 {a:OA} {n c:Nat} {x y:Int} {H:KH} {Q:PQ} (hq:∀ b,(b=true↔(x<=n/\n<=y))->Q (.bool b) H):Does (env Try.prog) 57 [.slice a n c,.int .i64 x,.int .i64 y] H Q :=
 fn57 ok ⟨fun h=>hq _ (by have:=of_decide_eq_true h; simp [this]),fun h=>hq _ (by have:=of_decide_eq_false h; simp [this])⟩
theorem c56 {a:OA} {n c:Nat} {x:Int} {H:KH} {Q:PQ} (hq:∀ b,(b=true↔(0<=x/\x<n))->Q (.bool b) H):Does (env Try.prog) 56 [.slice a n c,.int .i64 x] H Q :=
 fn56 ok ⟨fun h=>hq _ (by have:=of_decide_eq_true h; simp [this]),fun h=>hq _ (by have:=of_decide_eq_false h; simp [this])⟩
theorem c69 {a:OA} {n c:Nat} {x:Int} {H:KH} {Q:PQ} (hq:∀ b,(b=true↔(0<=x/\x<n))->Q (.bool b) H):Does (env Try.prog) 69 [.slice a n c,.int .i64 x] H Q :=
 fn69 ok ⟨fun h=>hq _ (by have:=of_decide_eq_true h; simp [this]),fun h=>hq _ (by have:=of_decide_eq_false h; simp [this])⟩
theorem c65 {x:Int} {H:KH} {Q:PQ} (hq:∀ b,(b=true↔(48<=x/\x<=57))->Q (.bool b) H):Does (env Try.prog) 65 [.int .u8 x] H Q :=
 fn65 ok ⟨fun h=>hq _ (by have:=of_decide_eq_true h; simp [this]),fun h=>hq _ (by have:=of_decide_eq_false h; simp [this])⟩
theorem c66 {x:Int} {H:KH} {Q:PQ} (hq:∀ b,(b=true↔(97<=x/\x<=122))->Q (.bool b) H):Does (env Try.prog) 66 [.int .u8 x] H Q :=
 fn66 ok ⟨fun h=>hq _ (by have:=of_decide_eq_true h; simp [this]),fun h=>hq _ (by have:=of_decide_eq_false h; simp [this])⟩
theorem c53 {s:ByteArray} {H:KH} {Q:PQ} (hq:∀ b,(b=true↔NameOk s)->Q (.bool b) H):Does (env Try.prog) 53 [.string s] H Q:=by
 refine fn53 ok ⟨fun h=>?_,fun h=>⟨fun h2=>?_,fun h2=>⟨⟨by omega,?_⟩,?_⟩⟩⟩
 .have:=of_decide_eq_true h
  exact hq false ⟨fun z=>(by cases z),fun z=>by have:=z.a; omega⟩
 .have:=of_decide_eq_true h2
  exact hq false ⟨fun z=>(by cases z),fun z=>by have:=z.b; omega⟩
 .have:=of_decide_eq_false h; omega
 have p1:1<=s.size:=by have:=of_decide_eq_false h; omega
 have p2:s.size<=8:=by have:=of_decide_eq_false h2; omega
 refine c65 ok fun b hb=>⟨b,rfl,fun z=>?_,fun z=>?_⟩
 .refine hq false ⟨fun z=>(by cases z),fun y=>?_⟩
  have:=y.c 0 (by omega)
  have w:=hb.1 z
  have e:Int.toNat 0=0:=rfl
  rw [e] at w
  omega
 .have w:¬ (48<=byteAt s 0/\byteAt s 0<=57):=fun y=>by
   have:=hb.2 y
   rw [z] at this; cases this
  unfold vc53_L1
  refine ⟨fun k s4 x5 x6 H7=>s4=s/\x5=s.size/\H7=H/\∃ i:Nat,x6=i/\i<=s.size/\k=s.size-i/\∀ j,j<i->(97<=byteAt s j/\byteAt s j<=122)\/(0<j/\48<=byteAt s j/\byteAt s j<=57),⟨_,rfl,rfl,rfl,0,rfl,by omega,rfl,fun j z=>absurd z (by omega)⟩,?_⟩
  rintro k s4 x5 x6 H7 ⟨rfl,rfl,rfl,i,rfl,hi,rfl,hv⟩
  refine ⟨fun hlt=>?_,fun hge=>?_⟩
  .have hlt:i<s4.size:=by have:=of_decide_eq_true hlt; omega
   have e0:Int.toNat ((i:Nat):Int)=i:=by omega
   have hi1:IntKind.wrap .i64 (((i:Nat):Int)+1)=((i+1:Nat):Int):=by rw [wrap64 (by omega) (by omega)]; omega
   rw [e0,hi1]
   refine ⟨⟨by omega,by omega⟩,c66 ok fun b1 h1=>⟨b1,rfl,fun z1=>⟨⟨by omega,by omega⟩,c65 ok fun b2 h2=>⟨b2,rfl,fun z2=>?_,fun z2=>?_⟩⟩,fun z1=>?_⟩⟩
   .refine hq false ⟨fun z=>(by cases z),fun y=>?_⟩
    cases b1
    .cases b2
     .rcases y.c i hlt with q | q
      .have:=h1.2 q; cases this
      .have:=h2.2 q.2; cases this
     .cases z2
    .cases z1
   .have b2t:b2=true:=by cases b2; cases z2; rfl
    refine ⟨s4.size-(i+1),by omega,rfl,rfl,rfl,i+1,rfl,by omega,rfl,fun j hj=>?_⟩
    by_cases e:j=i
    .subst e
     refine .inr ⟨?_,h2.1 b2t⟩
     rcases Nat.eq_zero_or_pos j with q | q
     .subst q; exact absurd (h2.1 b2t) w
     .exact q
    .exact hv j (by omega)
   .have b1t:b1=true:=by cases b1; cases z1; rfl
    refine ⟨s4.size-(i+1),by omega,rfl,rfl,rfl,i+1,rfl,by omega,rfl,fun j hj=>?_⟩
    by_cases e:j=i
    .subst e; exact .inl (h1.1 b1t)
    .exact hv j (by omega)
  .have hge:i=s4.size:=by have:=of_decide_eq_false hge; omega
   subst hge
   exact hq true ⟨fun _=>⟨p1,p2,hv⟩,fun _=>rfl⟩
theorem c51 {s:ByteArray} {H:KH} {Q:PQ} (hs:s.size<=140737488355328) (hq:∀ b,(b=true↔NameOk s)->Q (.bool b) H):Does (env Try.prog) 51 [.string s] H Q:=by
 refine fn51 ok ?_
 show vc51_L1 _ _ _
 unfold vc51_L1
 refine ⟨fun k s4 x5 H6=>s4=s/\H6=H/\∃ i:Nat,x5=i/\i<=s.size/\k=s.size-i/\∀ j,j<i->(97<=byteAt s j/\byteAt s j<=122)\/(0<j/\48<=byteAt s j/\byteAt s j<=57),⟨_,rfl,rfl,0,rfl,by omega,rfl,fun j z=>absurd z (by omega)⟩,?_⟩
 rintro k s4 x5 H6 ⟨rfl,rfl,i,rfl,hi,rfl,hv⟩
 refine ⟨fun hlt=>?_,fun hge=>?_⟩
 .have hlt:i<s4.size:=by have:=of_decide_eq_true hlt; omega
  have e0:Int.toNat ((i:Nat):Int)=i:=by omega
  have hi1:IntKind.wrap .i64 (((i:Nat):Int)+1)=((i+1:Nat):Int):=by rw [wrap64 (by omega) (by omega)]; omega
  have go:((97<=byteAt s4 i/\byteAt s4 i<=122)\/(0<i/\48<=byteAt s4 i/\byteAt s4 i<=57))->∀ j,j<i+1->(97<=byteAt s4 j/\byteAt s4 j<=122)\/(0<j/\48<=byteAt s4 j/\byteAt s4 j<=57):=fun h j hj=>by
   by_cases e:j=i
   .subst e; exact h
   .exact hv j (by omega)
  have no:¬ ((97<=byteAt s4 i/\byteAt s4 i<=122)\/(0<i/\48<=byteAt s4 i/\byteAt s4 i<=57))->Q (.bool false) H6:=fun h=>hq false ⟨fun z=>(by cases z),fun z=>absurd (z.c i hlt) h⟩
  rw [e0,hi1]
  refine ⟨⟨by omega,by omega⟩,fun z1=>⟨⟨by omega,by omega⟩,fun z2=>⟨fun z3=>?_,fun z3=>⟨⟨by omega,by omega⟩,fun z4=>?_,fun z4=>⟨⟨by omega,by omega⟩,fun z5=>?_,fun z5=>?_⟩⟩⟩,fun z2=>?_⟩,fun z1=>⟨fun _=>⟨fun z3=>?_,fun z3=>⟨⟨by omega,by omega⟩,fun z4=>?_,fun z4=>⟨⟨by omega,by omega⟩,fun z5=>?_,fun z5=>?_⟩⟩⟩,fun z2=>(by cases z2)⟩⟩
  all_goals simp only [Bool.not_eq_true',Bool.not_eq_false',decide_eq_true_eq,decide_eq_false_iff_not] at *
  all_goals first
   | (refine no ?_; omega)
   | exact ⟨s4.size-(i+1),by omega,trivial,trivial,i+1,rfl,by omega,rfl,go (by omega)⟩
 .have hge:i=s4.size:=by have:=of_decide_eq_false hge; omega
  subst hge
  refine ⟨fun z=>hq _ ?_,fun z=>hq _ ?_⟩
  .have:=of_decide_eq_true z
   rw [decide_eq_true_eq]
   exact ⟨fun y=>⟨by omega,by omega,hv⟩,fun y=>by have:=y.b; omega⟩
  .have:=of_decide_eq_false z
   exact ⟨fun y=>(by cases y),fun y=>by have:=y.a; omega⟩
end
end Va
end Go.Proofs.Ytibkijpnkmccpaa
namespace Go.Ew
open Go.Ev Go.Deep
inductive Nul (G:List Pr):Int->Prop where
 | mk (p:Pr) (hp:p∈G) (h1:∀ s∈p.right,s.tok=false) (h2:∀ s∈p.right,Nul G s.pos):Nul G p.left
def NulR (G:List Pr) (r:List Sy):Prop:=∀ s∈r,s.tok=false/\Nul G s.pos
inductive Fst (G:List Pr):Int->Int->Prop where
 | tok (p:Pr) (hp:p∈G) (u v:List Sy) (s:Sy) (hr:p.right=u++s :: v) (hn:NulR G u) (hs:s.tok=true):Fst G p.left s.pos
 | nt (p:Pr) (hp:p∈G) (u v:List Sy) (s:Sy) (t:Int) (hr:p.right=u++s :: v) (hn:NulR G u) (hs:s.tok=false) (h:Fst G s.pos t):Fst G p.left t
def FstR (G:List Pr) (r:List Sy) (t:Int):Prop:=∃ u s v,r=u++s :: v/\NulR G u/\((s.tok=true/\s.pos=t)\/(s.tok=false/\Fst G s.pos t))
inductive Flw (G:List Pr) (M:Int):Int->Int->Prop where
 | zero:Flw G M 0 M
 | fst (p:Pr) (hp:p∈G) (u v:List Sy) (s:Sy) (t:Int) (hr:p.right=u++s :: v) (hs:s.tok=false) (h:FstR G v t):Flw G M s.pos t
 | nul (p:Pr) (hp:p∈G) (u v:List Sy) (s:Sy) (t:Int) (hr:p.right=u++s :: v) (hs:s.tok=false) (hv:NulR G v) (h:Flw G M p.left t):Flw G M s.pos t
theorem NulR.left {G:List Pr} {p:Pr} (hp:p∈G) (h:NulR G p.right):Nul G p.left:=.mk p hp (fun s hs=>(h s hs).1) fun s hs=>(h s hs).2
theorem FstR.left {G:List Pr} {p:Pr} {t:Int} (hp:p∈G) (h:FstR G p.right t):Fst G p.left t:=by
 obtain ⟨u,s,v,hr,hn,⟨h1,rfl⟩ | ⟨h1,h2⟩⟩:=h
 .exact .tok p hp u v s hr hn h1
 .exact .nt p hp u v s t hr hn h1 h2
def ofK (nl:Int->Bool) (fs:Int->Int->Bool):List Sy->(Int->Bool) × Bool
 | []=>(fun _=>false,true)
 | s :: r=>bif s.tok then (fun t=>decide (t=s.pos),false) else
    bif nl s.pos then (fun t=>fs s.pos t||(ofK nl fs r).1 t,(ofK nl fs r).2) else (fun t=>fs s.pos t,false)
theorem ofK_sound {G:List Pr} {nl:Int->Bool} {fs:Int->Int->Bool} (h1:∀ x,nl x=true->Nul G x) (h2:∀ x t,fs x t=true->Fst G x t):∀ r,((ofK nl fs r).2=true->NulR G r)/\∀ t,(ofK nl fs r).1 t=true->FstR G r t
 | []=>⟨fun _ s hs=>(by cases hs),fun t h=>(by cases h)⟩
 | s :: r=>by
   obtain ⟨i1,i2⟩:=ofK_sound h1 h2 r
   unfold ofK
   cases hs:s.tok
   .cases hn:nl s.pos
    .refine ⟨fun h=>(by cases h),fun t h=>⟨[],s,r,rfl,fun _ q=>(by cases q),.inr ⟨hs,h2 _ _ h⟩⟩⟩
    .refine ⟨fun h x hx=>?_,fun t h=>?_⟩
     .rcases List.mem_cons.1 hx with rfl | hx
      .exact ⟨hs,h1 _ hn⟩
      .exact i1 h x hx
     .have h:(fs s.pos t||(ofK nl fs r).1 t)=true:=h
      rcases Bool.or_eq_true _ _ ▸ h with h | h
      .exact ⟨[],s,r,rfl,fun _ q=>(by cases q),.inr ⟨hs,h2 _ _ h⟩⟩
      .obtain ⟨u,x,v,rfl,k2,k3⟩:=i2 t h
       exact ⟨s :: u,x,v,rfl,fun y hy=>by
        rcases List.mem_cons.1 hy with rfl | hy
        .exact ⟨hs,h1 _ hn⟩
        .exact k2 y hy,k3⟩
   .exact ⟨fun h=>(by cases h),fun t h=>⟨[],s,r,rfl,fun _ q=>(by cases q),.inl ⟨hs,(of_decide_eq_true h).symm⟩⟩⟩
theorem ofK_full {G:List Pr} {nl:Int->Bool} {fs:Int->Int->Bool} (h1:∀ x,Nul G x->nl x=true) (h2:∀ x t,Fst G x t->fs x t=true):∀ r,(NulR G r->(ofK nl fs r).2=true)/\∀ t,FstR G r t->(ofK nl fs r).1 t=true
 | []=>⟨fun _=>rfl,fun t ⟨u,s,v,h,_⟩=>by cases u<;>cases h⟩
 | s :: r=>by
   obtain ⟨i1,i2⟩:=ofK_full h1 h2 r
   unfold ofK
   refine ⟨fun h=>?_,fun t h=>?_⟩
   .have:=h s (List.mem_cons_self ..)
    rw [this.1,h1 _ this.2]
    exact i1 fun x hx=>h x (List.mem_cons_of_mem _ hx)
   .obtain ⟨u,x,v,hr,hn,hx⟩:=h
    cases u with
    | nil =>
      cases hr
      rcases hx with ⟨a,rfl⟩ | ⟨a,b⟩
      .rw [a]; exact decide_eq_true rfl
      .rw [a]
       cases nl s.pos
       .exact h2 _ _ b
       .show (fs s.pos t||_)=true
        rw [h2 _ _ b]; rfl
    | cons y u =>
      cases hr
      have:=hn s (List.mem_cons_self ..)
      rw [this.1,h1 _ this.2]
      show (fs s.pos t||(ofK nl fs (u++x :: v)).1 t)=true
      have:=i2 t ⟨u,x,v,rfl,fun z hz=>hn z (List.mem_cons_of_mem _ hz),hx⟩
      have:(ofK nl fs (u++x :: v)).1 t=true:=this
      rw [this,Bool.or_true]
theorem nul_all {G:List Pr} {nl:Int->Bool} (h:∀ p∈G,(∀ s∈p.right,s.tok=false/\nl s.pos=true)->nl p.left=true):∀ x,Nul G x->nl x=true:=by
 intro x hx
 induction hx with
 | mk p hp h1 h2 ih=>exact h p hp fun s hs=>⟨h1 s hs,ih s hs⟩
theorem fst_all {G:List Pr} {nl:Int->Bool} {fs:Int->Int->Bool} (h1:∀ x,Nul G x->nl x=true) (h:∀ p∈G,∀ t,(ofK nl fs p.right).1 t=true->fs p.left t=true):∀ x t,Fst G x t->fs x t=true:=by
 have skip:∀ (u w:List Sy) (t:Int),NulR G u->(ofK nl fs w).1 t=true->(ofK nl fs (u++w)).1 t=true:=by
  intro u
  induction u with
  | nil=>intro w t _ h; exact h
  | cons s u ih =>
    intro w t hn hw
    have:=hn s (List.mem_cons_self ..)
    rw [List.cons_append,ofK,this.1,h1 _ this.2]
    show (fs s.pos t||(ofK nl fs (u++w)).1 t)=true
    rw [ih w t (fun z hz=>hn z (List.mem_cons_of_mem _ hz)) hw,Bool.or_true]
 intro x t hx
 induction hx with
 | tok p hp u v s hr hn hs =>
   refine h p hp _ ?_
   rw [hr]
   refine skip u _ _ hn ?_
   rw [ofK,hs]
   exact decide_eq_true rfl
 | nt p hp u v s t hr hn hs _ ih =>
   refine h p hp _ ?_
   rw [hr]
   refine skip u _ _ hn ?_
   rw [ofK,hs]
   cases nl s.pos
   .exact ih
   .show (fs s.pos t||_)=true
    rw [ih]; rfl
theorem flw_all {G:List Pr} {M:Int} {nl:Int->Bool} {fs fl:Int->Int->Bool} (h1:∀ x,Nul G x->nl x=true) (h2:∀ x t,Fst G x t->fs x t=true) (h0:fl 0 M=true)
 (h:∀ p∈G,∀ u s v,p.right=u++s :: v->s.tok=false->∀ t,((ofK nl fs v).1 t||((ofK nl fs v).2&&fl p.left t))=true->fl s.pos t=true):∀ x t,Flw G M x t->fl x t=true:=by
 intro x t hx
 induction hx with
 | zero=>exact h0
 | fst p hp u v s t hr hs hf=>exact h p hp u s v hr hs t (by rw [(ofK_full h1 h2 v).2 t hf]; rfl)
 | nul p hp u v s t hr hs hv _ ih=>exact h p hp u s v hr hs t (by rw [(ofK_full h1 h2 v).1 hv,ih]; simp)
theorem Nul.more {G K:List Pr} (h:∀ p∈G,p∈K) {x:Int} (hx:Nul G x):Nul K x:=by
 induction hx with
 | mk p hp h1 h2 ih=>exact .mk p (h p hp) h1 ih
theorem NulR.more {G K:List Pr} (h:∀ p∈G,p∈K) {r:List Sy} (hx:NulR G r):NulR K r:=fun s hs=>⟨(hx s hs).1,(hx s hs).2.more h⟩
theorem Fst.more {G K:List Pr} (h:∀ p∈G,p∈K) {x t:Int} (hx:Fst G x t):Fst K x t:=by
 induction hx with
 | tok p hp u v s hr hn hs=>exact .tok p (h p hp) u v s hr (hn.more h) hs
 | nt p hp u v s t hr hn hs _ ih=>exact .nt p (h p hp) u v s t hr (hn.more h) hs ih
theorem FstR.more {G K:List Pr} (h:∀ p∈G,p∈K) {r:List Sy} {t:Int} (hx:FstR G r t):FstR K r t:=by
 obtain ⟨u,s,v,h1,h2,h3⟩:=hx
 exact ⟨u,s,v,h1,h2.more h,h3.imp id fun q=>⟨q.1,q.2.more h⟩⟩
theorem Flw.more {G K:List Pr} {M:Int} (h:∀ p∈G,p∈K) {x t:Int} (hx:Flw G M x t):Flw K M x t:=by
 induction hx with
 | zero=>exact .zero
 | fst p hp u v s t hr hs hf=>exact .fst p (h p hp) u v s t hr hs (hf.more h)
 | nul p hp u v s t hr hs hv _ ih=>exact .nul p (h p hp) u v s t hr hs (hv.more h) ih
theorem Fst.left {G:List Pr} {x t:Int} (h:Fst G x t):∃ p∈G,p.left=x/\∃ q∈G,∃ s∈q.right,s.tok=true/\s.pos=t:=by
 induction h with
 | tok p hp u v s hr hn hs=>exact ⟨p,hp,rfl,p,hp,s,by rw [hr]; simp,hs,rfl⟩
 | nt p hp u v s t hr hn hs _ ih=>obtain ⟨_,_,_,q⟩:=ih; exact ⟨p,hp,rfl,q⟩
theorem ofK_mem {nl:Int->Bool} {fs:Int->Int->Bool} {B:Int->Prop} (h:∀ x t,fs x t=true->B t):∀ {r:List Sy},(∀ s∈r,s.tok=true->B s.pos)->∀ t,(ofK nl fs r).1 t=true->B t
 | [],_,t,q=>by cases q
 | s :: r,hr,t,q=>by
   rw [ofK] at q
   cases hs:s.tok<;>rw [hs] at q
   .cases hn:nl s.pos<;>rw [hn] at q
    .exact h _ _ q
    .have q:(fs s.pos t||(ofK nl fs r).1 t)=true:=q
     rcases Bool.or_eq_true _ _ ▸ q with q | q
     .exact h _ _ q
     .exact ofK_mem h (fun x hx=>hr x (List.mem_cons_of_mem _ hx)) t q
   .have q:t=s.pos:=of_decide_eq_true q
    rw [q]
    exact hr s (List.mem_cons_self ..) hs
structure Bxs {ι:Type} (Z H:KH) (D:ι->Prop) (nm:ι->Nat) (cs:ι->List Value):Prop where
 le:Le Z H
 fr:∀ i,D i->Z (nm i)=none
 ok:∀ i,D i->∃ e,H (nm i)=some e/\wrB e=true/\rd e.cells 0 (cs i).length=some (cs i)
 inj:∀ i j,D i->D j->nm i=nm j->i=j
section
variable {ι : Type} {Z H : KH} {D : ι -> Prop} {nm : ι -> Nat} {cs : ι -> List Value}
theorem Bxs.up {H':KH} (h:Bxs Z H D nm cs) (hl:Le H H'):Bxs Z H' D nm cs:=⟨h.le.trans hl,h.fr,fun i hi=>by
 obtain ⟨e,h1,h2⟩:=h.ok i hi
 exact ⟨e,hl _ _ h1,h2⟩,h.inj⟩
theorem Bxs.ld (h:Bxs Z H D nm cs) {j:ι} (hj:D j) {xs ys zs:List Value} (e:cs j=xs++ys++zs):ld H ⟨nm j,xs.length,none⟩ ys:=by
 obtain ⟨en,h1,h2,h3⟩:=h.ok j hj
 refine ⟨rfl,en,h1,?_⟩
 rw [e] at h3
 have r1:=rd_drop h3 (m:=xs.length) (by simp)
 have r2:=rd_take r1 (m:=ys.length) (by simp)
 rw [List.append_assoc,List.drop_left,List.take_left,Nat.zero_add] at r2
 exact r2
theorem Bxs.may (h:Bxs Z H D nm cs) {j:ι} (hj:D j):KH.may H (nm j):=by
 obtain ⟨e,h1,h2,_⟩:=h.ok j hj
 exact ⟨e,h1,h2⟩
theorem Bxs.kold (h:Bxs Z H D nm cs) {j:ι} (hj:D j) {sz n:Nat} (hn:(cs j).length=n*sz):kold H sz (some ⟨nm j,0,none⟩) n=some (cs j):=by
 obtain ⟨e,h1,h2,h3⟩:=h.ok j hj
 exact kold_some.2 ⟨e,h1,by rw [<- hn]; exact h3⟩
theorem Bxs.put (h:Bxs Z H D nm cs) {j:ι} (hj:D j) {xs ys zs vs:List Value} (e:cs j=xs++ys++zs) (hl:ys.length=vs.length) {cs':ι->List Value} (e':cs' j=xs++vs++zs) (hne:∀ i,D i->i≠j->cs' i=cs i):Bxs Z (H.put ⟨nm j,xs.length,none⟩ vs) D nm cs':=by
 refine ⟨le_put h.le (h.fr j hj),h.fr,fun i hi=>?_,h.inj⟩
 by_cases z:i=j
 .subst z
  obtain ⟨en,h1,h2,h3⟩:=h.ok i hi
  refine ⟨_,put_at h1,wrB_keep h2,?_⟩
  rw [e] at h3
  have hlen:(xs++vs++zs).length=(xs++ys++zs).length:=by simp [hl]
  rw [e',hlen]
  exact rdWr h3 rfl hl
 .obtain ⟨en,h1,h2,h3⟩:=h.ok i hi
  rw [hne i hi z]
  exact ⟨en,put_ne (fun w=>z (h.inj i j hi hj w)) h1,h2,h3⟩
end
def famC (h:Int->List Value) (N:Nat):List Value:=(List.range N).flatMap fun i:Nat=>h (i:Int)
section
variable {h h' : Int -> List Value} {k : Nat}
theorem fam_len (hf:∀ i,(h i).length=k) (N:Nat):(famC h N).length=N*k:=by
 unfold famC
 rw [fm_len (fun i=>hf _),List.length_range]
theorem fam_cut {N i:Nat} (hi:i<N):famC h N=famC h i++h (i:Int)++(List.range' (i+1) (N-i-1)).flatMap fun j:Nat=>h (j:Int):=by
 unfold famC
 have:List.range N=List.range i++[i]++List.range' (i+1) (N-i-1):=by
  rw [<- List.range_succ,List.range_eq_range',List.range_eq_range']
  have:=List.range'_append_1 (s:=0) (m:=i+1) (n:=N-i-1)
  rw [Nat.zero_add,show i+1+(N-i-1)=N by omega] at this
  exact this.symm
 rw [this,List.flatMap_append,List.flatMap_append]
 simp
theorem fam_congr {N:Nat} (e:∀ i:Nat,i<N->h i=h' i):famC h N=famC h' N:=by
 unfold famC
 induction N with
 | zero=>rfl
 | succ n ih =>
   rw [List.range_succ,List.flatMap_append,List.flatMap_append,ih (fun i hi=>e i (by omega))]
   simp [e n (by omega)]
theorem fam_set {N i:Nat} (hi:i<N) (e:∀ j:Nat,j≠i->h' j=h j):famC h' N=famC h i++h' (i:Int)++(List.range' (i+1) (N-i-1)).flatMap fun j:Nat=>h (j:Int):=by
 rw [fam_cut hi,fam_congr (h:=h') (h':=h) (N:=i) fun j hj=>e j (by omega)]
 congr 1
 have:∀ n s,i<s->(List.range' s n).flatMap (fun j:Nat=>h' (j:Int))=(List.range' s n).flatMap fun j:Nat=>h (j:Int):=by
  intro n
  induction n with
  | zero=>intro s _; rfl
  | succ n ih=>intro s hs; rw [List.range'_succ,List.flatMap_cons,List.flatMap_cons,e s (by omega),ih (s+1) (by omega)]
 exact this _ _ (by omega)
theorem fam_rep {N:Nat} {z:List Value} (e:∀ i:Nat,i<N->h i=z):lrep z N=famC h N:=by
 rw [fam_congr (h':=fun _=>z) e]
 unfold famC
 clear e
 induction N with
 | zero=>rfl
 | succ n ih =>
   rw [List.range_succ,List.flatMap_append,<- ih]
   simp only [List.flatMap_cons,List.flatMap_nil,List.append_nil]
   clear ih
   induction n with
   | zero=>simp [lrep]
   | succ n ih=>show z++lrep z (n+1)=(z++lrep z n)++z; rw [ih,List.append_assoc]
theorem fam_ld (hf:∀ i,(h i).length=k) {H:KH} {a:OA} {N i:Nat} (hk:kold H k a N=some (famC h N)) (hi:i<N):∃ b o,a=some ⟨b,o,none⟩/\ld H ⟨b,o+i*k,none⟩ (h (i:Int)):=by
 have:=it_ld (l:=List.range N) (f:=fun i:Nat=>h (i:Int)) (k:=k) (fun i=>hf _) (H:=H) (a:=a) (by rw [List.length_range]; exact hk) (i:=i) (by rw [List.length_range]; exact hi)
 rw [List.getElem_range] at this
 exact this
end
def bit1 (f:Int->Bool) (i:Int):List Value:=[.bool (f i)]
theorem bit1_len (f:Int->Bool) (i:Int):(bit1 f i).length=1:=rfl
def kC (f:Int->Bool):List Value:=[.bool (f 0),.bool (f 1),.bool (f 2),.bool (f 3),.bool (f 4),.bool (f 5),.bool (f 6),.bool (f 7),.bool (f 8)]
theorem kC_len (f:Int->Bool):(kC f).length=9:=rfl
def kf (b0 b1 b2 b3 b4 b5 b6 b7 b8:Bool) (t:Int):Bool :=
 (decide (t=0)&&b0)||(decide (t=1)&&b1)||(decide (t=2)&&b2)||(decide (t=3)&&b3)||(decide (t=4)&&b4)||(decide (t=5)&&b5)||(decide (t=6)&&b6)||(decide (t=7)&&b7)||(decide (t=8)&&b8)
def In9 (f:Int->Bool):Prop:=∀ t,f t=true->0<=t/\t<9
theorem in9_cases {t:Int} (h0:0<=t) (h1:t<9):t=0\/t=1\/t=2\/t=3\/t=4\/t=5\/t=6\/t=7\/t=8:=by omega
def InN (N:Nat) (X:Int->Int->Bool) (k:Nat):Prop:=∀ i t,X i t=true->(0<=i/\i<N)/\0<=t/\t<k
def Up (X:Int->Int->Bool) (i:Int) (f:Int->Bool) (j t:Int):Bool:=X j t||(decide (j=i)&&f t)
structure Stp (X0 X:Int->Int->Bool) (b:Bool):Prop where
 le:∀ i t,X0 i t=true->X i t=true
 no:b=false->X=X0
 yes:b=true->∃ i t,X i t=true/\X0 i t=false
theorem Stp.refl (X:Int->Int->Bool):Stp X X false:=⟨fun _ _ h=>h,fun _=>rfl,fun h=>by cases h⟩
theorem up_in {N k:Nat} {X:Int->Int->Bool} {i:Int} {f:Int->Bool} (h:InN N X k) (hi:0<=i/\i<N) (hf:∀ t,f t=true->0<=t/\t<k):InN N (Up X i f) k:=fun j t q=>by
 simp only [Up,Bool.or_eq_true,Bool.and_eq_true,decide_eq_true_eq] at q
 rcases q with q | ⟨rfl,q⟩
 .exact h j t q
 .exact ⟨hi,hf t q⟩
theorem Stp.add {X0 X:Int->Int->Bool} {b b':Bool} {i:Int} {f:Int->Bool} (h:Stp X0 X b) (h1:b'=true->b=true\/∃ t,f t=true/\X i t=false) (h2:b'=false->b=false/\∀ t,f t=true->X i t=true):Stp X0 (Up X i f) b':=by
 refine ⟨fun j t q=>?_,fun q=>?_,fun q=>?_⟩
 .simp only [Up,h.le j t q,Bool.true_or]
 .obtain ⟨q1,q2⟩:=h2 q
  rw [<- h.no q1]
  funext j t
  simp only [Up]
  cases hx:X j t
  .cases hd:decide (j=i)
   .rfl
   .cases hf:f t
    .rfl
    .have:=of_decide_eq_true hd
     rw [this,q2 t hf] at hx; cases hx
  .rfl
 .rcases h1 q with q | ⟨t,q1,q2⟩
  .obtain ⟨j,t,q1,q2⟩:=h.yes q
   exact ⟨j,t,by simp only [Up,q1,Bool.true_or],q2⟩
  .refine ⟨i,t,by simp [Up,q1],?_⟩
   cases e:X0 i t
   .rfl
   .rw [h.le i t e] at q2; cases q2
def miss (N k:Nat) (X:Int->Int->Bool):Nat:=((List.range N).map fun i:Nat=>((List.range k).filter fun t:Nat=>!X (i:Int) (t:Int)).length).sum
theorem Stp.miss {N k:Nat} {X0 X:Int->Int->Bool} (h:Stp X0 X true) (hi:InN N X k):miss N k X<miss N k X0:=by
 obtain ⟨i,t,q1,q2⟩:=h.yes rfl
 obtain ⟨⟨a1,a2⟩,b1,b2⟩:=hi i t q1
 have fl:∀ {p q:Nat->Bool} (l:List Nat),(∀ x,p x=true->q x=true)->(l.filter p).length<=(l.filter q).length:=by
  intro p q l hpq
  induction l with
  | nil=>exact Nat.le_refl _
  | cons x l ih =>
    cases hp:p x<;>cases hq:q x<;>simp only [List.filter_cons,hp,hq,if_true,if_false,Bool.false_eq_true,List.length_cons]<;>first | omega | (rw [hpq x hp] at hq; cases hq)
 have fs:∀ {p q:Nat->Bool} (l:List Nat),(∀ x,p x=true->q x=true)->(∃ x∈l,q x=true/\p x=false)->(l.filter p).length<(l.filter q).length:=by
  intro p q l hpq
  induction l with
  | nil=>rintro ⟨x,hx,_⟩; cases hx
  | cons x l ih =>
    rintro ⟨y,hy,hq,hp⟩
    have:=fl l hpq
    rcases List.mem_cons.1 hy with rfl | hy
    .simp only [List.filter_cons,hq,hp,if_true,Bool.false_eq_true,if_false,List.length_cons]; omega
    .have:=ih ⟨y,hy,hq,hp⟩
     cases hp:p x<;>cases hq:q x<;>simp only [List.filter_cons,hp,hq,if_true,if_false,Bool.false_eq_true,List.length_cons]<;>first | omega | (rw [hpq x hp] at hq; cases hq)
 have sl:∀ {p q:Nat->Nat} (l:List Nat),(∀ x,p x<=q x)->(l.map p).sum<=(l.map q).sum:=by
  intro p q l hpq
  induction l with
  | nil=>exact Nat.le_refl _
  | cons x l ih=>simp only [List.map_cons,List.sum_cons]; have:=hpq x; omega
 have ss:∀ {p q:Nat->Nat} (l:List Nat),(∀ x,p x<=q x)->(∃ x∈l,p x<q x)->(l.map p).sum<(l.map q).sum:=by
  intro p q l hpq
  induction l with
  | nil=>rintro ⟨x,hx,_⟩; cases hx
  | cons x l ih =>
    rintro ⟨y,hy,hq⟩
    have:=sl l hpq
    simp only [List.map_cons,List.sum_cons]
    rcases List.mem_cons.1 hy with rfl | hy
    .omega
    .have:=ih ⟨y,hy,hq⟩
     have:=hpq x; omega
 have mono:∀ (j:Nat) (s:Nat),(!X (j:Int) (s:Int))=true->(!X0 (j:Int) (s:Int))=true:=fun j s w=>by
  cases e:X0 (j:Int) (s:Int)
  .rfl
  .rw [h.le _ _ e] at w; cases w
 refine ss (List.range N) (fun j=>fl _ (mono j)) ⟨i.toNat,List.mem_range.2 (by omega),fs _ (mono _) ⟨t.toNat,List.mem_range.2 (by omega),?_,?_⟩⟩
 .have e1:((i.toNat:Nat):Int)=i:=by omega
  have e2:((t.toNat:Nat):Int)=t:=by omega
  rw [e1,e2,q2]; rfl
 .have e1:((i.toNat:Nat):Int)=i:=by omega
  have e2:((t.toNat:Nat):Int)=t:=by omega
  rw [e1,e2,q1]; rfl
end Go.Ew
set_option maxRecDepth 100000
namespace Go.Proofs.Ytibkijpnkmccpaa
open Go.Ev Go.Ew
namespace Va
def W110 (P:Program):WE:=⟨env P,tupT,[],mkTab [],110⟩
def vc110 (p0 p1:Bool) (H:KH) (Q:PQ):Prop :=
 ((p0=true->Q (.bool true) H)/\(p0=false->Q (.bool p1) H))
theorem fn110 (ok:EnvOk (env Try.prog)) {p0 p1:Bool} {H:KH} {Q:PQ} (h:vc110 p0 p1 H Q):Does (env Try.prog) 110 [.bool p0,.bool p1] H Q :=
 wFun_sound (W:=W110 Try.prog) ok.tt (blt_lt (by kernel_rfl)) (ff_of ok (by kernel_rfl) Try.func110) (Eq.mpr (by kernel_rfl) h)
end Va
end Go.Proofs.Ytibkijpnkmccpaa
namespace Go.Ew
open Go.Ev Go.Deep
def rowN1 (X:Int->Int->Bool) (i:Int):List Value:=[.bool (X i 0)]
def rowK (X:Int->Int->Bool) (i:Int):List Value:=kC (X i)
def kV (f:Int->Bool):Value:=.agg (kC f).toArray
def gwS (b N:Nat) (h:Int->List Value) (g:Bool):Bool->List Value
 | true=>[.slice (some ⟨b,0,none⟩) N N,.bool g]
 | false=>famC h N
def gwN (p b:Nat):Bool->Nat
 | true=>p
 | false=>b
abbrev Gw (Z H:KH) (p b N:Nat) (h:Int->List Value) (g:Bool):Prop:=Bxs Z H (fun _:Bool=>True) (gwN p b) (gwS b N h g)
section
variable {Z H : KH} {p b N k : Nat} {h : Int -> List Value} {g : Bool}
theorem Gw.ldS (w:Gw Z H p b N h g):ld H ⟨p,0,none⟩ [.slice (some ⟨b,0,none⟩) N N]:=Bxs.ld w (j:=true) trivial (xs:=[]) (zs:=[.bool g]) rfl
theorem Gw.ldG (w:Gw Z H p b N h g):ld H ⟨p,1,none⟩ [.bool g]:=Bxs.ld w (j:=true) trivial (xs:=[.slice (some ⟨b,0,none⟩) N N]) (zs:=[]) rfl
theorem Gw.mayS (w:Gw Z H p b N h g):KH.may H p:=Bxs.may w (j:=true) trivial
theorem Gw.mayB (w:Gw Z H p b N h g):KH.may H b:=Bxs.may w (j:=false) trivial
theorem Gw.putG (w:Gw Z H p b N h g) (g':Bool):Gw Z (H.put ⟨p,1,none⟩ [.bool g']) p b N h g' :=
 Bxs.put w (j:=true) trivial (xs:=[.slice (some ⟨b,0,none⟩) N N]) (ys:=[.bool g]) (zs:=[]) (vs:=[.bool g']) rfl rfl (cs':=gwS b N h g') rfl fun i _ hi=>by cases i; rfl; exact absurd rfl hi
theorem Gw.ldI (w:Gw Z H p b N h g) (hf:∀ i,(h i).length=k) {i:Int} (h0:0<=i) (h1:i<N):ld H ⟨b,0+i.toNat*k,none⟩ (h i):=by
 have hi:i.toNat<N:=by omega
 have e:((i.toNat:Nat):Int)=i:=by omega
 have:=Bxs.ld w (j:=false) trivial (fam_cut (h:=h) hi)
 rw [fam_len hf,e] at this
 rw [Nat.zero_add]
 exact this
theorem Gw.putI (w:Gw Z H p b N h g) (hf:∀ i,(h i).length=k) {i:Int} (h0:0<=i) (h1:i<N) {h':Int->List Value} (hk:(h' i).length=k) (e:∀ j,j≠i->h' j=h j):Gw Z (H.put ⟨b,0+i.toNat*k,none⟩ (h' i)) p b N h' g:=by
 have hi:i.toNat<N:=by omega
 have ei:((i.toNat:Nat):Int)=i:=by omega
 have c1:=fam_cut (h:=h) hi
 have c2:=fam_set (h:=h) (h':=h') hi fun j hj=>e j (by omega)
 rw [ei] at c1 c2
 have:=Bxs.put w (j:=false) trivial c1 (vs:=h' i) (by rw [hf,hk]) (cs':=gwS b N h' g) c2 fun i _ hi=>by cases i; exact absurd rfl hi; rfl
 rw [fam_len hf] at this
 rw [Nat.zero_add]
 exact this
end
theorem at9 {F:Int->Bool} {t:Int} (h0:0<=t) (h1:t<9):atC (kC F) t (.bool (F t)):=⟨by
 rcases in9_cases h0 h1 with e | e | e | e | e | e | e | e | e<;>subst e<;>rfl⟩
theorem kV_congr {f g:Int->Bool} (h:∀ t,0<=t->t<9->f t=g t):kV f=kV g:=by
 unfold kV kC
 rw [h 0 (by decide) (by decide),h 1 (by decide) (by decide),h 2 (by decide) (by decide),h 3 (by decide) (by decide),h 4 (by decide) (by decide),h 5 (by decide) (by decide),h 6 (by decide) (by decide),h 7 (by decide) (by decide),h 8 (by decide) (by decide)]
abbrev Bx9 (Z H:KH) (b:Nat) (F:Int->Bool):Prop:=Bxs Z H (fun _:Unit=>True) (fun _=>b) (fun _=>kC F)
section
variable {Z H : KH} {b : Nat} {F : Int -> Bool}
theorem Bx9.mk0 (hn:Z b=none):Bx9 Z (Z.new b (mkEnt (kC F) 0)) b F:=⟨Le.new hn,fun _ _=>hn,fun _ _=>⟨_,if_pos rfl,rfl,mk_rd⟩,fun _ _ _ _ _=>rfl⟩
theorem Bx9.all (w:Bx9 Z H b F):ld H ⟨b,0,none⟩ (kC F):=Bxs.ld w (j:=()) trivial (xs:=[]) (zs:=[]) (by simp)
theorem Bx9.at1 (w:Bx9 Z H b F) {t:Int} (h0:0<=t) (h1:t<9):ld H ⟨b,0+t.toNat*1,none⟩ [.bool (F t)]:=by
 have hi:t.toNat<9:=by omega
 have e:((t.toNat:Nat):Int)=t:=by omega
 have:=Bxs.ld w (j:=()) trivial (fam_cut (h:=bit1 F) hi)
 rw [fam_len (k:=1) (bit1_len F),e] at this
 rw [Nat.zero_add]
 exact this
theorem Bx9.set1 (w:Bx9 Z H b F) {t:Int} (h0:0<=t) (h1:t<9) {F':Int->Bool} (e:∀ j,j≠t->F' j=F j):Bx9 Z (H.put ⟨b,0+t.toNat*1,none⟩ [.bool (F' t)]) b F':=by
 have hi:t.toNat<9:=by omega
 have ei:((t.toNat:Nat):Int)=t:=by omega
 have c1:=fam_cut (h:=bit1 F) hi
 have c2:=fam_set (h:=bit1 F) (h':=bit1 F') hi fun j hj=>by unfold bit1; rw [e j (by omega)]
 rw [ei] at c1 c2
 have:=Bxs.put w (j:=()) trivial c1 (vs:=bit1 F' t) rfl (cs':=fun _=>kC F') c2 fun i _ hi=>absurd rfl hi
 rw [fam_len (k:=1) (bit1_len F)] at this
 rw [Nat.zero_add]
 exact this
theorem Bx9.same (w:Bx9 Z H b F):Bx9 Z (H.put ⟨b,0,none⟩ (kC F)) b F :=
 Bxs.put w (j:=()) trivial (xs:=[]) (ys:=kC F) (zs:=[]) (vs:=kC F) (by simp) rfl (by simp) fun _ _ hi=>absurd rfl hi
end
def SymsIn (M N:Nat) (r:List Sy):Prop:=∀ s∈r,0<=s.pos/\(s.tok=true->s.pos<M)/\(s.tok=false->s.pos<N)
theorem SymsIn.drop {M N:Nat} {r:List Sy} (h:SymsIn M N r) (i:Nat):SymsIn M N (r.drop i):=fun s hs=>h s (List.mem_of_mem_drop hs)
end Go.Ew
namespace Go.Proofs.Ytibkijpnkmccpaa
open Go.Ev Go.Ew
namespace Va
section
variable (ok : EnvOk (env Try.prog))
include ok
theorem c110 {a b:Bool} {H:KH} {Q:PQ} (hq:Q (.bool (a||b)) H):Does (env Try.prog) 110 [.bool a,.bool b] H Q:=by
 refine fn110 ok ⟨fun h=>?_,fun h=>?_⟩<;>subst h
 .exact hq
 .exact hq
theorem c82 {Z H:KH} {p b N:Nat} {X:Int->Int->Bool} {g m:Bool} {nt:Int} {Q:PQ} (w:Gw Z H p b N (rowN1 X) g) (h0:0<=nt) (h1:nt<N)
 (hq:∀ H' g',Gw Z H' p b N (rowN1 (Up X nt fun t=>decide (t=0)&&m)) g'->(g'=true->g=true\/∃ t,(decide (t=0)&&m)=true/\X nt t=false)->(g'=false->g=false/\∀ t,(decide (t=0)&&m)=true->X nt t=true)->Q (.tuple #[]) H'):Does (env Try.prog) 82 [.pointer (some ⟨p,0,none⟩),.int .i64 nt,.bool m] H Q:=by
 have rf:∀ (X:Int->Int->Bool) i,(rowN1 X i).length=1:=fun _ _=>rfl
 refine fn82 ok ⟨rfl,_,_,_,w.ldS,⟨h0,h1⟩,b,0,rfl,_,w.ldI (rf X) h0 h1,c110 ok ⟨_,rfl,rfl,_,_,_,w.ldS,⟨h0,h1⟩,b,0,rfl,_,w.ldI (rf X) h0 h1,fun z=>?_,fun z=>?_⟩⟩
 .have hz:m=true/\X nt 0=false:=by cases hx:X nt 0<;>cases m<;>rw [hx] at z<;>first | exact ⟨rfl,rfl⟩ | cases z
  have w2:=w.putI (rf X) h0 h1 (h':=rowN1 (Up X nt fun t=>decide (t=0)&&m)) rfl fun j hj=>by
   unfold rowN1 Up; rw [decide_eq_false hj,Bool.false_and,Bool.or_false]
  have e:rowN1 (Up X nt fun t=>decide (t=0)&&m) nt=[.bool (X nt 0||m)]:=by simp [rowN1,Up]
  rw [e] at w2
  exact ⟨rfl,_,_,_,w.ldS,⟨h0,h1⟩,b,0,rfl,⟨rowN1 X nt,rfl,w.ldI (rf X) h0 h1⟩,w.mayB,rfl,⟨[.bool g],rfl,w2.ldG⟩,w2.mayS,hq _ true (w2.putG true) (fun _=>.inr ⟨0,by rw [hz.1]; rfl,hz.2⟩) fun q=>by cases q⟩
 .have hz:m=true->X nt 0=true:=fun hm=>by cases hx:X nt 0<;>rw [hx,hm] at z<;>first | rfl | cases z
  have e:rowN1 (Up X nt fun t=>decide (t=0)&&m)=rowN1 X:=by
   funext j
   unfold rowN1 Up
   by_cases hj:j=nt
   .subst hj
    cases hm:m
    .simp
    .rw [hz hm]; rfl
   .rw [decide_eq_false hj,Bool.false_and,Bool.or_false]
  refine hq _ g (by rw [e]; exact w) (fun q=>.inl q) fun q=>⟨q,fun t ht=>?_⟩
  simp only [Bool.and_eq_true,decide_eq_true_eq] at ht
  rw [ht.1]; exact hz ht.2
theorem c78 {f g:Int->Bool} {H:KH} {Q:PQ} (hq:∀ H',Le H H'->Q (kV fun t=>f t||g t) H'):Does (env Try.prog) 78 [kV f,kV g] H Q:=by
 refine fn78 ok fun n1 hn1=>?_
 unfold vc78_L2
 refine ⟨fun k n4 n5 b6 b7 b8 b9 b10 b11 b12 b13 b14 b15 b16 b17 b18 b19 b20 b21 b22 b23 x24 H25=>n4=n1/\n5=0/\(b15=g 0/\b16=g 1/\b17=g 2/\b18=g 3/\b19=g 4/\b20=g 5/\b21=g 6/\b22=g 7/\b23=g 8)/\∃ i:Nat,x24=i/\i<=9/\k=9-i/\Bx9 H H25 n1 fun t=>f t||(decide (t<i)&&g t),⟨9,rfl,rfl,rfl,⟨rfl,rfl,rfl,rfl,rfl,rfl,rfl,rfl,rfl⟩,0,rfl,by omega,rfl,?_⟩,?_⟩
 .have w:=Bx9.mk0 (F:=f) hn1
  have e:kC (fun t=>f t||(decide (t<((0:Nat):Int))&&g t))=kC f:=by simp [kC]
  show Bxs _ _ _ _ _
  rw [e]
  exact w
 rintro k n4 n5 b6 b7 b8 b9 b10 b11 b12 b13 b14 b15 b16 b17 b18 b19 b20 b21 b22 b23 x24 H25 ⟨rfl,rfl,⟨rfl,rfl,rfl,rfl,rfl,rfl,rfl,rfl,rfl⟩,i,rfl,hi,rfl,w⟩
 refine ⟨fun z=>?_,fun z=>?_⟩
 .have z:((i:Nat):Int)<9:=of_decide_eq_true z
  have h0:(0:Int)<=i:=by omega
  have hi1:IntKind.wrap .i64 (((i:Nat):Int)+1)=((i+1:Nat):Int):=by rw [wrap64 (by omega) (by omega)]; omega
  have r:=w.at1 h0 z
  have nx:∀ v:Bool,v=(f i||g i)->Bx9 H (H25.put ⟨n4,0+(i:Int).toNat*1,none⟩ [.bool v]) n4 fun t=>f t||(decide (t<((i+1:Nat):Int))&&g t):=fun v hv=>by
   have:=w.set1 h0 z (F':=fun t=>f t||(decide (t<((i+1:Nat):Int))&&g t)) fun j hj=>by
    have:decide (j<((i+1:Nat):Int))=decide (j<((i:Nat):Int)):=by
     by_cases q:j<(i:Int)
     .rw [decide_eq_true q,decide_eq_true (by omega)]
     .rw [decide_eq_false q,decide_eq_false (by omega)]
    rw [this]
   have e:(f (i:Int)||(decide ((i:Int)<((i+1:Nat):Int))&&g i))=v:=by rw [hv,decide_eq_true (by omega),Bool.true_and]
   rw [e] at this
   exact this
  have e0:(f (i:Int)||(decide ((i:Int)<(i:Int))&&g i))=f i:=by rw [decide_eq_false (by omega),Bool.false_and,Bool.or_false]
  have r:ld H25 ⟨n4,0+(i:Int).toNat*1,none⟩ [.bool (f i)]:=by rw [e0] at r; exact r
  refine ⟨⟨h0,z⟩,g i,at9 h0 z,⟨h0,z⟩,rfl,f i,r,fun y=>?_,fun y=>?_⟩
  .refine ⟨⟨h0,z⟩,rfl,⟨[.bool (f i)],rfl,r⟩,Bxs.may w (j:=()) trivial,9-(i+1),by omega,rfl,rfl,rfl,⟨rfl,rfl,rfl,rfl,rfl,rfl,rfl,rfl,rfl⟩,i+1,hi1,by omega,rfl,nx true (by rw [y]; rfl)⟩
  .refine ⟨⟨h0,z⟩,rfl,⟨[.bool (f i)],rfl,r⟩,Bxs.may w (j:=()) trivial,9-(i+1),by omega,rfl,rfl,rfl,⟨rfl,rfl,rfl,rfl,rfl,rfl,rfl,rfl,rfl⟩,i+1,hi1,by omega,rfl,nx (g i) (by rw [y]; rfl)⟩
 .have z:¬ ((i:Nat):Int)<9:=of_decide_eq_false z
  have hi:i=9:=by omega
  subst hi
  refine ⟨_,_,_,_,_,_,_,_,_,w.all,?_⟩
  have:=hq H25 w.le
  rw [kV_congr (g:=fun t=>f t||(decide (t<((9:Nat):Int))&&g t)) fun t _ h=>by rw [decide_eq_true (by omega),Bool.true_and]] at this
  exact this
theorem c73 {k:Int} {H:KH} {Q:PQ} (h0:0<=k) (h1:k<9) (hq:∀ H',Le H H'->Q (kV fun t=>decide (t=k)) H'):Does (env Try.prog) 73 [.int .i64 k] H Q:=by
 refine fn73 ok fun n1 hn1=>?_
 have w:=Bx9.mk0 (F:=fun _=>false) hn1
 have r:=w.at1 h0 h1
 have w2:=w.set1 h0 h1 (F':=fun t=>decide (t=k)) fun j hj=>decide_eq_false hj
 have e:decide (k=k)=true:=decide_eq_true rfl
 simp only [e] at w2
 have w3:=w2.same
 exact ⟨⟨h0,h1⟩,rfl,⟨[.bool false],rfl,r⟩,Bxs.may w (j:=()) trivial,_,_,_,_,_,_,_,_,_,w2.all,⟨kC _,rfl,w2.all⟩,Bxs.may w2 (j:=()) trivial,_,_,_,_,_,_,_,_,_,w3.all,hq _ w3.le⟩
theorem c72 {Z H:KH} {p b N:Nat} {X:Int->Int->Bool} {g:Bool} {f:Int->Bool} {nt:Int} {Q:PQ} (w:Gw Z H p b N (rowK X) g) (h0:0<=nt) (h1:nt<N) (hf:In9 f)
 (hq:∀ H' g',Gw Z H' p b N (rowK (Up X nt f)) g'->(g'=true->g=true\/∃ t,f t=true/\X nt t=false)->(g'=false->g=false/\∀ t,f t=true->X nt t=true)->Q (.tuple #[]) H'):Does (env Try.prog) 72 [.pointer (some ⟨p,0,none⟩),.int .i64 nt,kV f] H Q:=by
 have rf:∀ (X:Int->Int->Bool) i,(rowK X i).length=9:=fun _ _=>rfl
 refine fn72 ok ⟨trivial,rfl,_,_,_,w.ldS,⟨h0,h1⟩,b,0,rfl,_,_,_,_,_,_,_,_,_,w.ldI (rf X) h0 h1,c78 ok (f:=X nt) (g:=f) fun H2 hl=>?_⟩
 have w':=Bxs.up w hl
 have w':Gw Z H2 p b N (rowK X) g:=w'
 refine ⟨_,_,_,_,_,_,_,_,_,rfl,trivial,trivial,trivial,rfl,_,_,_,w'.ldS,⟨h0,h1⟩,b,0,rfl,_,_,_,_,_,_,_,_,_,w'.ldI (rf X) h0 h1,fun z=>?_,fun z=>?_⟩
 .have hz:∃ t,f t=true/\X nt t=false:=by
   refine Classical.byContradiction fun hc=>?_
   have:∀ t,(X nt t||f t)=X nt t:=fun t=>by
    cases hx:X nt t
    .cases hft:f t
     .rfl
     .exact (hc ⟨t,hft,hx⟩).elim
    .rfl
   simp only [this,beq_self_eq_true,Bool.and_self,Bool.not_true] at z
   cases z
  have w2:=w'.putI (rf X) h0 h1 (h':=rowK (Up X nt f)) rfl fun j hj=>by
   unfold rowK; congr 1; funext t; unfold Up; rw [decide_eq_false hj,Bool.false_and,Bool.or_false]
  have e:rowK (Up X nt f) nt=kC fun t=>X nt t||f t:=by
   unfold rowK; congr 1; funext t; unfold Up; rw [decide_eq_true rfl,Bool.true_and]
  rw [e] at w2
  exact ⟨trivial,rfl,_,_,_,w'.ldS,⟨h0,h1⟩,b,0,rfl,⟨rowK X nt,rfl,w'.ldI (rf X) h0 h1⟩,w'.mayB,⟨rfl,trivial⟩,rfl,⟨[.bool g],rfl,w2.ldG⟩,w2.mayS,trivial,hq _ true (w2.putG true) (fun _=>.inr hz) fun q=>by cases q⟩
 .have hz:∀ t,f t=true->X nt t=true:=fun t ht=>by
   simp only [Bool.not_eq_false',Bool.and_eq_true,beq_iff_eq] at z
   obtain ⟨z0,z1,z2,z3,z4,z5,z6,z7,z8,_⟩:=z
   have key:∀ a b:Bool,(a||b)=a->b=true->a=true:=by decide
   obtain ⟨t0,t1⟩:=hf t ht
   rcases in9_cases t0 t1 with e | e | e | e | e | e | e | e | e<;>subst e<;>first | exact key _ _ z0 ht | exact key _ _ z1 ht | exact key _ _ z2 ht | exact key _ _ z3 ht | exact key _ _ z4 ht | exact key _ _ z5 ht | exact key _ _ z6 ht | exact key _ _ z7 ht | exact key _ _ z8 ht
  have e:rowK (Up X nt f)=rowK X:=by
   funext j
   unfold rowK
   congr 1
   funext t
   unfold Up
   by_cases hj:j=nt
   .subst hj
    cases hft:f t
    .simp
    .rw [hz t hft]; rfl
   .rw [decide_eq_false hj,Bool.false_and,Bool.or_false]
  exact hq _ g (by rw [e]; exact w') (fun q=>.inl q) fun q=>⟨q,hz⟩
theorem c77 {M:Int} {na fa:OA} {N nc fn fc:Nat} {t:Bool} {x:Int} {H:KH} {Q:PQ} (h0:0<=x) (h1:t=true->x<M) (h2:t=false->x<N) (hq:Q (.bool true) H):Does (env Try.prog) 77 [.agg #[.int .i64 M,.slice na N nc,.slice fa fn fc],.agg #[.bool t,.int .i64 x]] H Q:=by
 refine fn77 ok ⟨fun z=>⟨fun _=>?_,fun y=>absurd h0 (of_decide_eq_false y)⟩,fun z=>⟨fun _=>?_,fun y=>absurd h0 (of_decide_eq_false y)⟩⟩
 .rw [decide_eq_true (h1 z)]; exact hq
 .rw [decide_eq_true (h2 z)]; exact hq
theorem c83 {ra na:OA} {rc N nc:Nat} {r:List Sy} {nl:Int->Bool} {M:Nat} {H:KH} {Q:PQ} (hr:kold H 2 ra r.length=some (syC r)) (hn:kold H 1 na N=some (famC (bit1 nl) N)) (hs:SymsIn M N r) (hl:r.length<=1000)
 (hq:∀ b,(b=true↔∀ s∈r,s.tok=false/\nl s.pos=true)->Q (.bool b) H):Does (env Try.prog) 83 [.slice ra r.length rc,.slice na N nc] H Q:=by
 refine fn83 ok ?_
 show vc83_L1 _ _ _ _ _ _ _ _
 unfold vc83_L1
 refine ⟨fun k a4 n5 n6 a7 n8 n9 x10 x11 H12=>a4=na/\n5=N/\a7=ra/\n8=r.length/\x10=r.length/\H12=H/\∃ i:Nat,x11=i/\i<=r.length/\k=r.length-i/\∀ s∈r.take i,s.tok=false/\nl s.pos=true,⟨r.length,rfl,rfl,rfl,rfl,rfl,rfl,0,rfl,by omega,rfl,fun s hs=>(by cases hs)⟩,?_⟩
 rintro k a4 n5 n6 a7 n8 n9 x10 x11 H12 ⟨rfl,rfl,rfl,rfl,rfl,rfl,i,rfl,hi,rfl,hv⟩
 refine ⟨fun z=>?_,fun z=>?_⟩
 .have z:i<r.length:=by have:=of_decide_eq_true z; omega
  have e0:Int.toNat ((i:Nat):Int)=i:=by omega
  have hi1:IntKind.wrap .i64 (((i:Nat):Int)+1)=((i+1:Nat):Int):=by rw [wrap64 (by omega) (by omega)]; omega
  obtain ⟨b0,o0,ha,r0⟩:=sy_ld hr z
  obtain ⟨s0,s1,s2⟩:=hs _ (List.getElem_mem z)
  rw [e0,hi1]
  refine ⟨⟨by omega,by omega⟩,b0,o0,ha,_,_,r0,fun y=>hq false ⟨fun q=>(by cases q),fun q=>?_⟩,fun y=>?_⟩
  .have:=(q _ (List.getElem_mem z)).1
   rw [y] at this; cases this
  obtain ⟨b1,o1,ha1,r1⟩:=fam_ld (k:=1) (bit1_len nl) hn (i:=(r[i]).pos.toNat) (by have:=s2 y; omega)
  have ep:(((r[i]).pos.toNat:Nat):Int)=(r[i]).pos:=by omega
  rw [ep] at r1
  refine ⟨⟨s0,s2 y⟩,b1,o1,ha1,_,r1,fun y2=>hq false ⟨fun q=>(by cases q),fun q=>?_⟩,fun y2=>?_⟩
  .have:=(q _ (List.getElem_mem z)).2
   rw [this] at y2; cases y2
  .refine ⟨r.length-(i+1),by omega,rfl,rfl,rfl,rfl,rfl,rfl,i+1,rfl,by omega,rfl,fun s hs=>?_⟩
   rw [List.take_succ_eq_append_getElem z] at hs
   rcases List.mem_append.1 hs with hs | hs
   .exact hv s hs
   .rw [List.mem_singleton.1 hs]
    exact ⟨y,by cases q:nl (r[i]).pos<;>rw [q] at y2<;>first | rfl | cases y2⟩
 .have z:i=r.length:=by have:=of_decide_eq_false z; omega
  subst z
  rw [List.take_length] at hv
  exact hq true ⟨fun _=>hv,fun _=>rfl⟩
theorem c63 {M N nc fc rc:Nat} {na fa ra:OA} {r:List Sy} {nl:Int->Bool} {fs:Int->Int->Bool} {H:KH} {Q:PQ} (hn:kold H 1 na N=some (famC (bit1 nl) N)) (hf:kold H 9 fa N=some (famC (rowK fs) N)) (hr:kold H 2 ra r.length=some (syC r)) (hs:SymsIn M N r) (hM:M<=8) (hl:r.length<=1000)
 (hq:∀ H',Le H H'->Q (.tuple #[kV (ofK nl fs r).1,.bool (ofK nl fs r).2]) H'):Does (env Try.prog) 63 [.agg #[.int .i64 M,.slice na N nc,.slice fa N fc],.slice ra r.length rc] H Q:=by
 refine fn63 ok ?_
 show vc63_L2 _ _ _ _ _ _ _ _ _ _ _ _
 unfold vc63_L2
 refine ⟨fun k x4 a5 n6 n7 a8 n9 n10 b11 b12 b13 b14 b15 b16 b17 b18 b19 a20 n21 n22 x23 x24 H25=>x4=M/\a5=na/\n6=N/\a8=fa/\n9=N/\a20=ra/\n21=r.length/\x23=r.length/\Le H H25/\∃ (i:Nat) (F:Int->Bool),(b11=F 0/\b12=F 1/\b13=F 2/\b14=F 3/\b15=F 4/\b16=F 5/\b17=F 6/\b18=F 7/\b19=F 8)/\x24=i/\i<=r.length/\k=r.length-i/\(∀ t,(F t||(ofK nl fs (r.drop i)).1 t)=(ofK nl fs r).1 t)/\(ofK nl fs (r.drop i)).2=(ofK nl fs r).2,⟨r.length,rfl,rfl,rfl,rfl,rfl,rfl,rfl,rfl,Le.refl H,0,(fun _=>false),⟨rfl,rfl,rfl,rfl,rfl,rfl,rfl,rfl,rfl⟩,rfl,by omega,rfl,fun t=>rfl,rfl⟩,?_⟩
 rintro k x4 a5 n6 n7 a8 n9 n10 b11 b12 b13 b14 b15 b16 b17 b18 b19 a20 n21 n22 x23 x24 H25 ⟨rfl,rfl,rfl,rfl,rfl,rfl,rfl,rfl,hle,i,F,⟨rfl,rfl,rfl,rfl,rfl,rfl,rfl,rfl,rfl⟩,rfl,hi,rfl,hF,h2⟩
 have fin:∀ (f:Int->Bool) (b:Bool) (H':KH),Le H H'->(∀ t,f t=(ofK nl fs r).1 t)->b=(ofK nl fs r).2->Q (.tuple #[kV f,.bool b]) H':=fun f b H' h e1 e2=>by
  rw [e2,show f=(ofK nl fs r).1 from funext e1]; exact hq H' h
 refine ⟨fun z=>?_,fun z=>?_⟩
 .have z:i<r.length:=by have:=of_decide_eq_true z; omega
  have e0:Int.toNat ((i:Nat):Int)=i:=by omega
  have hi1:IntKind.wrap .i64 (((i:Nat):Int)+1)=((i+1:Nat):Int):=by rw [wrap64 (by omega) (by omega)]; omega
  obtain ⟨b0,o0,ha,r0⟩:=sy_ld (hle.kold hr) z
  obtain ⟨s0,s1,s2⟩:=hs _ (List.getElem_mem z)
  rw [List.drop_eq_getElem_cons z,ofK] at hF h2
  rw [e0,hi1]
  refine ⟨⟨by omega,by omega⟩,b0,o0,ha,_,_,r0,c77 ok s0 s1 s2 ⟨true,rfl,fun y=>(by cases y),fun _=>⟨fun y=>?_,fun y=>?_⟩⟩⟩
  .rw [y] at hF h2
   have hp:=s1 y
   refine ⟨trivial,c73 ok s0 (by omega) fun H9 l9=>⟨_,_,_,_,_,_,_,_,_,rfl,⟨rfl,trivial⟩,c78 ok (f:=F) (g:=fun t=>decide (t=(r[i]).pos)) fun H20 l20=>⟨_,_,_,_,_,_,_,_,_,rfl,trivial,trivial,fin _ _ H20 (hle.trans (l9.trans l20)) hF h2⟩⟩⟩
  .rw [y] at hF h2
   have hp:=s2 y
   have ep:(((r[i]).pos.toNat:Nat):Int)=(r[i]).pos:=by omega
   obtain ⟨b1,o1,ha1,r1⟩:=fam_ld (k:=9) (fun _=>rfl) (hle.kold hf) (i:=(r[i]).pos.toNat) (by omega)
   rw [ep] at r1
   refine ⟨trivial,⟨s0,hp⟩,b1,o1,ha1,_,_,_,_,_,_,_,_,_,r1,c78 ok (f:=F) (g:=fs (r[i]).pos) fun H13 l13=>⟨_,_,_,_,_,_,_,_,_,rfl,trivial,trivial,⟨s0,hp⟩,?_⟩⟩
   obtain ⟨b2,o2,ha2,r2⟩:=fam_ld (k:=1) (bit1_len nl) ((hle.trans l13).kold hn) (i:=(r[i]).pos.toNat) (by omega)
   rw [ep] at r2
   refine ⟨b2,o2,ha2,_,r2,fun y2=>?_,fun y2=>?_⟩
   .have y2:nl (r[i]).pos=false:=by cases q:nl (r[i]).pos<;>rw [q] at y2<;>first | rfl | cases y2
    rw [y2] at hF h2
    exact fin _ _ H13 (hle.trans l13) hF h2
   .have y2:nl (r[i]).pos=true:=by cases q:nl (r[i]).pos<;>rw [q] at y2<;>first | rfl | cases y2
    rw [y2] at hF h2
    refine ⟨r.length-(i+1),by omega,rfl,rfl,rfl,rfl,rfl,rfl,rfl,rfl,hle.trans l13,i+1,(fun t=>F t||fs (r[i]).pos t),⟨rfl,rfl,rfl,rfl,rfl,rfl,rfl,rfl,rfl⟩,rfl,by omega,rfl,fun t=>?_,h2⟩
    rw [<- hF t,Bool.or_assoc]; rfl
 .have z:i=r.length:=by have:=of_decide_eq_false z; omega
  subst z
  rw [List.drop_length] at hF h2
  exact fin F true H25 hle (fun t=>by rw [<- hF t]; exact (Bool.or_false _).symm) h2
end
end Va
end Go.Proofs.Ytibkijpnkmccpaa
namespace Go.Ew
open Go.Ev Go.Deep
theorem lrepLen {α:Type} (z:List α):∀ n,(lrep z n).length=n*z.length
 | 0=>by simp [lrep]
 | n+1=>by simp [lrep,lrepLen z n,Nat.add_mul]; omega
def tiS:TI:=⟨1,16,false,4,0,0,[],[.string ⟨#[]⟩]⟩
def ntV (x:Nt):Value:=.agg #[.string x.name,.slice x.ia x.inh.length x.ic,.slice x.sa x.syn.length x.sc]
def prV (x:Pr):Value:=.agg #[.int .i64 x.left,.slice x.ra x.right.length x.rc,.slice x.ua x.un x.uc]
def syV (s:Sy):Value:=.agg #[.bool s.tok,.int .i64 s.pos]
structure Nr (X H:KH) (sz:Nat) (a:OA) (n c:Nat) (cs:List Value):Prop where
 le:Le X H
 g:Gs H sz a n c cs
 fr:∀ k,blk a=some k->X k=none
theorem Nr.nil {X H:KH} {sz:Nat} (h:Le X H):Nr X H sz none 0 0 []:=⟨h,.nil,fun k z=>(by cases z)⟩
theorem Nr.up {X H H':KH} {sz n c:Nat} {a:OA} {cs:List Value} (h:Nr X H sz a n c cs) (hl:Le H H'):Nr X H' sz a n c cs:=⟨h.le.trans hl,h.g.agree fun k e _ q=>hl k e q,h.fr⟩
theorem Nr.from_ {X Y H:KH} {sz n c:Nat} {a:OA} {cs:List Value} (h:Nr Y H sz a n c cs) (hl:Le X Y):Nr X H sz a n c cs:=⟨hl.trans h.le,h.g,fun k z=>hl.none (h.fr k z)⟩
theorem Nr.row {X H:KH} {sz n c:Nat} {a:OA} {cs:List Value} (h:Nr X H sz a n c cs):kold H sz a n=some cs:=h.g.row
theorem Nr.app {X H:KH} {ti:TI} {n c nm m:Nat} {a:OA} {cs new:List Value} (h:Nr X H ti.size a n c cs) (hn:H nm=none) (hm:new.length=m*ti.size) (hs:n+m<=1000000) (hb:ti.bytes<=1000000) (hz:1<=ti.size) (hro:ti.size<=1000000:=by decide) :
 ∃ a' c' H',kappend H nm ti a n c m new=some (.slice a' (n+m) c',H')/\Nr X H' ti.size a' (n+m) c' (cs++new)/\(∀ k e,H k=some e->blk a≠some k->H' k=some e):=by
 obtain ⟨a',c',H',f1,f2,f3,f4⟩:=h.g.appends (ti:=ti) (nm:=nm) (m:=m) (new:=new) hn hm hs hb hz hro
 refine ⟨a',c',H',f1,⟨fun k e q=>f3 k e (h.le k e q) (fun z=>by rw [h.fr k z] at q; cases q),f2,fun k z=>?_⟩,f3⟩
 rcases f4 k z with w | w
 .exact h.fr k w
 .rw [w]; exact h.le.none hn
end Go.Ew
namespace Go.Proofs.Ytibkijpnkmccpaa
open Go.Ev Go.Ew
namespace Va
section
variable (ok : EnvOk (env Try.prog))
include ok
theorem c79 {a:OA} {c:Nat} {l:List ByteArray} {s:ByteArray} {H:KH} {Q:PQ} (hl:kold H 1 a l.length=some (sC l)) (hs:l.length<=1000000) (hq:∀ x:Int,(0<=x↔s∈l)->Q (.int .i64 x) H):Does (env Try.prog) 79 [.slice a l.length c,.string s] H Q:=by
 refine fn79 ok ?_
 show vc79_L1 _ _ _ _ _ _
 unfold vc79_L1
 refine ⟨fun k a4 n5 n6 s7 x8 x9 H10=>a4=a/\n5=l.length/\s7=s/\x8=l.length/\H10=H/\∃ i:Nat,x9=i/\i<=l.length/\k=l.length-i/\∀ j (hj:j<l.length),j<i->l[j]≠s,⟨_,rfl,rfl,rfl,rfl,rfl,0,rfl,by omega,rfl,fun j _ z=>absurd z (by omega)⟩,?_⟩
 rintro k a4 n5 n6 s7 x8 x9 H10 ⟨rfl,rfl,rfl,rfl,rfl,i,rfl,hi,rfl,hv⟩
 refine ⟨fun hlt=>?_,fun hge=>?_⟩
 .have hlt:i<l.length:=by have:=of_decide_eq_true hlt; omega
  have e0:Int.toNat ((i:Nat):Int)=i:=by omega
  have hi1:IntKind.wrap .i64 (((i:Nat):Int)+1)=((i+1:Nat):Int):=by rw [wrap64 (by omega) (by omega)]; omega
  obtain ⟨b0,o0,ha,r0⟩:=s_ld hl hlt
  rw [e0,hi1]
  refine ⟨⟨by omega,by omega⟩,b0,o0,ha,_,r0,fun hc=>?_,fun hc=>?_⟩
  .have:=strEq_iff.1 hc
   exact hq _ ⟨fun _=>by rw [this]; exact List.getElem_mem _,fun _=>by omega⟩
  .refine ⟨l.length-(i+1),by omega,rfl,rfl,rfl,rfl,rfl,i+1,rfl,by omega,rfl,fun j hj z=>?_⟩
   by_cases y:j=i
   .subst y
    intro w
    rw [w,strEq_iff.2 rfl] at hc; cases hc
   .exact hv j hj (by omega)
 .have hge:i=l.length:=by have:=of_decide_eq_false hge; omega
  subst hge
  refine hq _ ⟨fun z=>by omega,fun z=>?_⟩
  obtain ⟨j,hj,w⟩:=List.mem_iff_getElem.1 z
  exact absurd w (hv j hj hj)
theorem c67 {a:OA} {c:Nat} {l:List ByteArray} {s:ByteArray} {H:KH} {Q:PQ} (hl:kold H 1 a l.length=some (sC l)) (hs:l.length<=1000000) (hq:∀ b,(b=true↔s∈l)->Q (.bool b) H):Does (env Try.prog) 67 [.slice a l.length c,.string s] H Q :=
 fn67 ok (c79 ok hl hs fun x hx=>⟨x,rfl,hq _ (by rw [decide_eq_true_eq]; exact hx)⟩)
theorem c54 {a:OA} {c:Nat} {l:List ByteArray} {H:KH} {Q:PQ} (ho:SlOk H 1 a l.length c) (hl:kold H 1 a l.length=some (sC l)) (hs:l.length<=1000000) (hq:∀ b,(b=true↔∀ i (h:i<l.length) j (h2:j<i),l[i]≠l[j]'(by omega))->Q (.bool b) H):Does (env Try.prog) 54 [.slice a l.length c] H Q:=by
 refine fn54 ok ?_
 show vc54_L1 _ _ _ _ _
 unfold vc54_L1
 refine ⟨fun k a4 n5 n6 a7 n8 n9 x10 x11 H12=>a4=a/\n5=l.length/\n6=c/\a7=a/\n8=l.length/\x10=l.length/\H12=H/\∃ i:Nat,x11=i/\i<=l.length/\k=l.length-i/\∀ i' (h:i'<l.length) j (h2:j<i'),i'<i->l[i']≠l[j]'(by omega),⟨_,rfl,rfl,rfl,rfl,rfl,rfl,rfl,0,rfl,by omega,rfl,fun _ _ _ _ z=>absurd z (by omega)⟩,?_⟩
 rintro k a4 n5 n6 a7 n8 n9 x10 x11 H12 ⟨rfl,rfl,rfl,rfl,rfl,rfl,rfl,i,rfl,hi,rfl,hv⟩
 refine ⟨fun hlt=>?_,fun hge=>?_⟩
 .have hlt:i<l.length:=by have:=of_decide_eq_true hlt; omega
  have e0:Int.toNat ((i:Nat):Int)=i:=by omega
  have hi1:IntKind.wrap .i64 (((i:Nat):Int)+1)=((i+1:Nat):Int):=by rw [wrap64 (by omega) (by omega)]; omega
  obtain ⟨b0,o0,ha,r0⟩:=s_ld hl hlt
  obtain ⟨a',c',k1,k2⟩:=cut_lo (k:=i) ho hl (by omega)
  have e2:(l.take i).length=i:=by rw [List.length_take]; omega
  have k2:kold H12 1 a' (l.take i).length=some (sC (l.take i)):=by
   rw [e2,k2]; unfold sC; rw [(fm_cut (k:=1) (fun _=>rfl) l i).2]
  rw [e0,hi1]
  refine ⟨⟨by omega,by omega⟩,b0,o0,ha,_,r0,a',i,c',k1,?_⟩
  have hc58:=fun Q'=>c67 ok (c:=c') (s:=l[i]) (Q:=Q') k2 (by omega)
  rw [e2] at hc58
  refine hc58 _ fun b hb=>⟨b,rfl,fun z=>?_,fun z=>?_⟩
  .refine hq false ⟨fun y=>(by cases y),fun y=>?_⟩
   obtain ⟨j,hj,w⟩:=List.mem_iff_getElem.1 (hb.1 z)
   rw [List.getElem_take] at w
   exact absurd w.symm (y i hlt j (by omega))
  .refine ⟨l.length-(i+1),by omega,rfl,rfl,rfl,rfl,rfl,rfl,rfl,i+1,rfl,by omega,rfl,fun i' h1 j h2 h3 w=>?_⟩
   by_cases y:i'=i
   .subst y
    have:b=true:=hb.2 (List.mem_iff_getElem.2 ⟨j,by omega,by rw [List.getElem_take]; exact w.symm⟩)
    rw [z] at this; cases this
   .exact hv i' h1 j h2 (by omega) w
 .have hge:i=l.length:=by have:=of_decide_eq_false hge; omega
  subst hge
  exact hq true ⟨fun _ i' h1 j h2=>hv i' h1 j h2 h1,fun _=>rfl⟩
theorem c52 {a:OA} {c:Nat} {l:List ByteArray} {H:KH} {Q:PQ} (hl:kold H 1 a l.length=some (sC l)) (hs:l.length<=1000000) (hq:∀ b,(b=true↔∀ i (h:i<l.length),NameOk l[i])->Q (.bool b) H):Does (env Try.prog) 52 [.slice a l.length c,.func (.func 53) #[] #[]] H Q:=by
 refine fn52 ok ?_
 show vc52_L1 _ _ _ _ _ _
 unfold vc52_L1
 refine ⟨fun k n4 l5 a6 n7 n8 x9 x10 H11=>n4=53/\l5=[]/\a6=a/\n7=l.length/\x9=l.length/\H11=H/\∃ i:Nat,x10=i/\i<=l.length/\k=l.length-i/\∀ j (hj:j<l.length),j<i->NameOk l[j],⟨_,rfl,rfl,rfl,rfl,rfl,rfl,0,rfl,by omega,rfl,fun j _ z=>absurd z (by omega)⟩,?_⟩
 rintro k n4 l5 a6 n7 n8 x9 x10 H11 ⟨rfl,rfl,rfl,rfl,rfl,rfl,i,rfl,hi,rfl,hv⟩
 refine ⟨fun hlt=>?_,fun hge=>?_⟩
 .have hlt:i<l.length:=by have:=of_decide_eq_true hlt; omega
  have e0:Int.toNat ((i:Nat):Int)=i:=by omega
  have hi1:IntKind.wrap .i64 (((i:Nat):Int)+1)=((i+1:Nat):Int):=by rw [wrap64 (by omega) (by omega)]; omega
  obtain ⟨b0,o0,ha,r0⟩:=s_ld hl hlt
  rw [e0,hi1]
  refine ⟨⟨by omega,by omega⟩,b0,o0,ha,_,r0,c53 ok fun b hb=>⟨b,rfl,fun z=>?_,fun z=>?_⟩⟩
  .refine hq false ⟨fun y=>(by cases y),fun y=>?_⟩
   have:=hb.2 (y i hlt)
   rw [this] at z; cases z
  .have bt:b=true:=by cases b; cases z; rfl
   refine ⟨l.length-(i+1),by omega,rfl,rfl,rfl,rfl,rfl,rfl,i+1,rfl,by omega,rfl,fun j hj z=>?_⟩
   by_cases y:j=i
   .subst y; exact hb.1 bt
   .exact hv j hj (by omega)
 .have hge:i=l.length:=by have:=of_decide_eq_false hge; omega
  subst hge
  exact hq true ⟨fun _ j hj=>hv j hj hj,fun _=>rfl⟩
theorem c41 {a:OA} {c:Nat} {l:List ByteArray} {H:KH} {Q:PQ} (ho:SlOk H 1 a l.length c) (hl:kold H 1 a l.length=some (sC l)) (hs:l.length<=1000000) (hq:∀ b,(b=true↔NamesOk l)->Q (.bool b) H):Does (env Try.prog) 41 [.slice a l.length c] H Q:=by
 refine fn41 ok (c52 ok hl hs fun b hb=>⟨b,rfl,fun z=>c54 ok ho hl hs fun b2 h2=>⟨b2,rfl,hq b2 ⟨fun y=>⟨hb.1 z,h2.1 y⟩,fun y=>h2.2 y.b⟩⟩,fun z=>hq false ⟨fun y=>(by cases y),fun y=>?_⟩⟩)
 have:=hb.2 y.a
 rw [z] at this; cases this
theorem c68 {n:Nat} {H:KH} {Q:PQ} (hs:n<=1000) (hq:∀ a c H',Nr H H' 1 a 0 c []->Q (.slice a 0 c) H'):Does (env Try.prog) 68 [.slice none 0 0,.int .i64 ((n:Nat):Int)] H Q:=by
 refine fn68 ok ⟨fun z=>by have:=of_decide_eq_true z; omega,fun _=>⟨by decide,fun z=>?_,fun z=>hq none 0 H (.nil (Le.refl H))⟩⟩
 have e1:IntKind.wrap .i64 (((0:Nat):Int)-((0:Nat):Int))=0:=by decide
 have e2:IntKind.wrap .i64 (((n:Nat):Int)-0)=n:=by rw [wrap64 (by omega) (by omega)]; omega
 rw [e1,e2] at z ⊢
 refine ⟨by decide,none,0,0,rfl,fun nm hnm=>?_⟩
 have e3:Int.toNat ((n:Nat):Int)=n:=by omega
 have hk:knew H ⟨1,16,false,4,0,0,[],[.string ⟨#[]⟩]⟩ (.int .i64 ((n:Nat):Int))=some (n,lrep [.string ⟨#[]⟩] n):=by
  have h1:decide (0<=((n:Nat):Int))=true:=by simp
  have h2:decide (((n:Nat):Int)<=1000000)=true:=by rw [decide_eq_true_eq]; omega
  unfold knew
  simp only [h1,h2,Bool.and_self,cond_true,e3]
 obtain ⟨a',c',H',f1,f2,f3⟩:=(Nr.nil (sz:=tiS.size) (Le.refl H)).app (ti:=tiS) (nm:=nm) (m:=n) (new:=lrep [.string ⟨#[]⟩] n) hnm (by rw [lrepLen]; rfl) (by omega) (by decide) (by decide)
 rw [Nat.zero_add] at f1 f2
 refine ⟨_,_,hk,a',_,c',H',f1,?_⟩
 obtain ⟨g1,g2⟩:=f2.g.cut (m:=0) (by omega) (by decide)
 refine ⟨a',_,c',g1,hq a' c' H' ⟨f2.le,?_,f2.fr⟩⟩
 rw [Nat.zero_mul,List.take_zero] at g2
 exact g2
theorem c55 {b:Nat} {a a':OA} {c c':Nat} {l m:List ByteArray} {H:KH} {Q:PQ} (hb:H b=some (mkEnt [.slice a l.length c,.slice a' m.length c'] 0)) (hl:kold H 1 a l.length=some (sC l)) (hm:kold H 1 a' m.length=some (sC m)) (hs:l.length+m.length<=1000)
 (hq:∀ a2 c2 H',Nr H H' 1 a2 (l++m).length c2 (sC (l++m))->Q (.slice a2 (l++m).length c2) H'):Does (env Try.prog) 55 [.slice (some ⟨b,0,none⟩) 2 2] H Q:=by
 have hld:ld H ⟨b,0,none⟩ [.slice a l.length c,.slice a' m.length c']:=⟨rfl,_,hb,mk_rd (cs:=[.slice a l.length c,.slice a' m.length c']) (u:=0)⟩
 have r0:ld H ⟨b,0+0*1,none⟩ [.slice a l.length c]:=ldSub hld 0 1 (by simp)
 have r1:ld H ⟨b,0+1*1,none⟩ [.slice a' m.length c']:=ldSub hld 1 1 (by simp)
 refine fn55 ok ?_
 show vc55_L3 _ _ _ _ _
 unfold vc55_L3
 refine ⟨fun k a4 n5 n6 x7 a8 n9 n10 x11 x12 H13=>a4=some ⟨b,0,none⟩/\n5=2/\n6=2/\a8=some ⟨b,0,none⟩/\n9=2/\n10=2/\x11=2/\H13=H/\((k=2/\x12=0/\x7=0)\/(k=1/\x12=1/\x7=l.length)\/(k=0/\x12=2/\x7=((l.length+m.length:Nat):Int))),⟨2,rfl,rfl,rfl,rfl,rfl,rfl,rfl,rfl,.inl ⟨rfl,rfl,rfl⟩⟩,?_⟩
 rintro k a4 n5 n6 x7 a8 n9 n10 x11 x12 H13 ⟨rfl,rfl,rfl,rfl,rfl,rfl,rfl,rfl,hx⟩
 refine ⟨fun hlt=>?_,fun hge=>?_⟩
 .rcases hx with ⟨rfl,rfl,rfl⟩ | ⟨rfl,rfl,rfl⟩ | ⟨rfl,rfl,rfl⟩
  .have e:IntKind.wrap .i64 (0+((l.length:Nat):Int))=l.length:=by rw [wrap64 (by omega) (by omega)]; omega
   refine ⟨⟨by decide,by decide⟩,b,0,rfl,a,_,c,r0,fun z=>?_,fun z=>⟨1,by decide,rfl,rfl,rfl,rfl,rfl,rfl,rfl,rfl,.inr (.inl ⟨rfl,rfl,e⟩)⟩⟩
   rw [e] at z
   have:=of_decide_eq_true z; omega
  .have e:IntKind.wrap .i64 (((l.length:Nat):Int)+((m.length:Nat):Int))=((l.length+m.length:Nat):Int):=by rw [wrap64 (by omega) (by omega)]; omega
   refine ⟨⟨by decide,by decide⟩,b,0,rfl,a',_,c',r1,fun z=>?_,fun z=>⟨0,by decide,rfl,rfl,rfl,rfl,rfl,rfl,rfl,rfl,.inr (.inr ⟨rfl,rfl,e⟩)⟩⟩
   rw [e] at z
   have:=of_decide_eq_true z; omega
  .have:=of_decide_eq_true hlt; omega
 .rcases hx with ⟨rfl,rfl,rfl⟩ | ⟨rfl,rfl,rfl⟩ | ⟨rfl,rfl,rfl⟩
  .exact absurd (of_decide_eq_false hge) (by decide)
  .exact absurd (of_decide_eq_false hge) (by decide)
  refine c68 ok (by omega) fun a16 c16 H15 o15=>⟨a16,_,c16,rfl,?_⟩
  unfold vc55_L2
  refine ⟨fun k a4 n5 n6 a7 n8 n9 x10 x11 H12=>a7=some ⟨b,0,none⟩/\n8=2/\x10=2/\((k=2/\x11=0/\Nr H13 H12 1 a4 n5 n6 []/\n5=0)\/(k=1/\x11=1/\Nr H13 H12 1 a4 n5 n6 (sC l)/\n5=l.length)\/(k=0/\x11=2/\Nr H13 H12 1 a4 n5 n6 (sC (l++m))/\n5=(l++m).length)),⟨2,rfl,rfl,rfl,.inl ⟨rfl,rfl,o15,rfl⟩⟩,?_⟩
  rintro k a4 n5 n6 a7 n8 n9 x10 x11 H12 ⟨rfl,rfl,rfl,hx⟩
  refine ⟨fun hlt=>?_,fun hge=>?_⟩
  .rcases hx with ⟨rfl,rfl,o,rfl⟩ | ⟨rfl,rfl,o,rfl⟩ | ⟨rfl,rfl,o,rfl⟩
   .refine ⟨⟨by decide,by decide⟩,b,0,rfl,a,_,c,o.le.ld r0,fun nm hnm=>?_⟩
    obtain ⟨a5,c5,H5,f1,f2,f3⟩:=o.app (ti:=tiS) (nm:=nm) (m:=l.length) (new:=sC l) hnm (by rw [sC_len]; exact (Nat.mul_one _).symm) (by omega) (by decide) (by decide)
    rw [Nat.zero_add] at f1 f2
    refine ⟨_,_,knew_of (ti:=tiS) (o.le.kold hl),a5,_,c5,H5,?_,1,by decide,rfl,rfl,rfl,.inr (.inl ⟨rfl,rfl,f2,rfl⟩)⟩
    exact f1
   .refine ⟨⟨by decide,by decide⟩,b,0,rfl,a',_,c',o.le.ld r1,fun nm hnm=>?_⟩
    obtain ⟨a5,c5,H5,f1,f2,f3⟩:=o.app (ti:=tiS) (nm:=nm) (m:=m.length) (new:=sC m) hnm (by rw [sC_len]; exact (Nat.mul_one _).symm) (by omega) (by decide) (by decide)
    rw [<- sC_app,<- List.length_append] at f2
    rw [<- List.length_append] at f1
    refine ⟨_,_,knew_of (ti:=tiS) (o.le.kold hm),a5,_,c5,H5,?_,0,by decide,rfl,rfl,rfl,.inr (.inr ⟨rfl,rfl,f2,rfl⟩)⟩
    exact f1
   .have:=of_decide_eq_true hlt; omega
  .rcases hx with ⟨rfl,rfl,o,rfl⟩ | ⟨rfl,rfl,o,rfl⟩ | ⟨rfl,rfl,o,rfl⟩
   .exact absurd (of_decide_eq_false hge) (by decide)
   .exact absurd (of_decide_eq_false hge) (by decide)
   exact hq _ _ _ o
theorem c42 {g:Gm} {H:KH} {Q:PQ} (hg:GI H g) (hs:g.toks.length+g.nts.length<=1000) (hq:∀ a c H',Nr H H' 1 a (namesG g).length c (sC (namesG g))->Q (.slice a (namesG g).length c) H'):Does (env Try.prog) 42 [gv g] H Q:=by
 refine fn42 ok ?_
 show vc42_L3 _ _ _ _ _ _ _ _ _ _ _
 unfold vc42_L3
 refine ⟨fun k a4 n5 n6 a7 n8 n9 a10 n11 n12 a13 n14 n15 a16 n17 n18 x19 x20 H21=>a7=g.na/\n8=g.nts.length/\a16=g.ta/\n17=g.toks.length/\x19=g.toks.length/\∃ i:Nat,x20=i/\i<=g.toks.length/\k=g.toks.length-i/\n14=i/\Nr H H21 1 a13 n14 n15 (sC ((g.toks.take i).map Tk.name)),⟨_,rfl,rfl,rfl,rfl,rfl,0,rfl,by omega,rfl,rfl,.nil (Le.refl H)⟩,?_⟩
 rintro k a4 n5 n6 a7 n8 n9 a10 n11 n12 a13 n14 n15 a16 n17 n18 x19 x20 H21 ⟨rfl,rfl,rfl,rfl,rfl,i,rfl,hi,rfl,rfl,o⟩
 refine ⟨fun hlt=>?_,fun hge=>?_⟩
 .have hlt:n14<g.toks.length:=by have:=of_decide_eq_true hlt; omega
  have e0:Int.toNat ((n14:Nat):Int)=n14:=by omega
  have hi1:IntKind.wrap .i64 (((n14:Nat):Int)+1)=((n14+1:Nat):Int):=by rw [wrap64 (by omega) (by omega)]; omega
  obtain ⟨b0,o0,ha,r0⟩:=tk_ld (o.le.kold hg.t) hlt
  rw [e0,hi1]
  refine ⟨⟨by omega,by omega⟩,b0,o0,ha,_,_,_,r0,fun n6 h6 n7 h7=>⟨_,_,knew_of (ti:=tiS) (lit_kold (if_pos rfl) rfl),?_⟩⟩
  obtain ⟨a5,c5,H5,f1,f2,f3⟩:=(o.up (Le.new h6)).app (ti:=tiS) (nm:=n7) (m:=1) (new:=[.string g.toks[n14].name]) h7 rfl (by omega) (by decide) (by decide)
  refine ⟨a5,_,c5,H5,f1,g.toks.length-(n14+1),by omega,rfl,rfl,rfl,rfl,rfl,n14+1,rfl,by omega,rfl,rfl,?_⟩
  have e:sC ((g.toks.take (n14+1)).map Tk.name)=sC ((g.toks.take n14).map Tk.name)++[.string g.toks[n14].name]:=by
   rw [List.take_succ_eq_append_getElem hlt,List.map_append,sC_app]; rfl
  rw [e]; exact f2
 .have hge:n14=g.toks.length:=by have:=of_decide_eq_false hge; omega
  subst hge
  rw [List.take_length] at o
  unfold vc42_L2
  refine ⟨fun k a4 n5 n6 a7 n8 n9 x10 x11 H12=>a7=g.na/\n8=g.nts.length/\x10=g.nts.length/\∃ i:Nat,x11=i/\i<=g.nts.length/\k=g.nts.length-i/\n5=g.toks.length+i/\Nr H H12 1 a4 n5 n6 (sC (g.toks.map Tk.name++(g.nts.take i).map Nt.name)),⟨_,rfl,rfl,rfl,0,rfl,by omega,rfl,rfl,by simpa using o⟩,?_⟩
  rintro k a4 n5 n6 a7 n8 n9 x10 x11 H12 ⟨rfl,rfl,rfl,i,rfl,hi,rfl,rfl,o⟩
  refine ⟨fun hlt=>?_,fun hge=>?_⟩
  .have hlt:i<g.nts.length:=by have:=of_decide_eq_true hlt; omega
   have e0:Int.toNat ((i:Nat):Int)=i:=by omega
   have hi1:IntKind.wrap .i64 (((i:Nat):Int)+1)=((i+1:Nat):Int):=by rw [wrap64 (by omega) (by omega)]; omega
   obtain ⟨b0,o0,ha,r0⟩:=nt_ld (o.le.kold hg.n) hlt
   rw [e0,hi1]
   refine ⟨⟨by omega,by omega⟩,b0,o0,ha,_,_,_,_,_,_,_,r0,fun n6 h6 n7 h7=>⟨_,_,knew_of (ti:=tiS) (lit_kold (if_pos rfl) rfl),?_⟩⟩
   obtain ⟨a5,c5,H5,f1,f2,f3⟩:=(o.up (Le.new h6)).app (ti:=tiS) (nm:=n7) (m:=1) (new:=[.string g.nts[i].name]) h7 rfl (by omega) (by decide) (by decide)
   refine ⟨a5,_,c5,H5,f1,g.nts.length-(i+1),by omega,rfl,rfl,rfl,i+1,rfl,by omega,rfl,rfl,?_⟩
   have e:sC (g.toks.map Tk.name++(g.nts.take (i+1)).map Nt.name)=sC (g.toks.map Tk.name++(g.nts.take i).map Nt.name)++[.string g.nts[i].name]:=by
    rw [List.take_succ_eq_append_getElem hlt,List.map_append,<- List.append_assoc,sC_app]; rfl
   rw [e]; exact f2
  .have hge:i=g.nts.length:=by have:=of_decide_eq_false hge; omega
   subst hge
   rw [List.take_length] at o
   have e:g.toks.length+g.nts.length=(namesG g).length:=by unfold namesG; simp
   rw [e] at o ⊢
   exact hq _ _ _ o
theorem c44 {x:Nt} {H:KH} {Q:PQ} (h1:kold H 1 x.ia x.inh.length=some (sC x.inh)) (h2:kold H 1 x.sa x.syn.length=some (sC x.syn)) (hs:x.inh.length<=1000) (ht:x.syn.length<=1000) (hq:∀ b H',Le H H'->(b=true↔AttrsOk x)->Q (.bool b) H'):Does (env Try.prog) 44 [ntV x] H Q:=by
 have e:IntKind.wrap .i64 (((x.inh.length:Nat):Int)+((x.syn.length:Nat):Int))=((x.inh.length+x.syn.length:Nat):Int):=by rw [wrap64 (by omega) (by omega)]; omega
 refine fn44 ok ?_
 unfold vc44
 rw [e]
 refine ⟨fun z n1 hn=>?_,fun z=>hq false H (Le.refl H) ⟨fun y=>(by cases y),fun y=>?_⟩⟩
 .have z:x.inh.length+x.syn.length<=4:=by have:=of_decide_eq_true z; omega
  have hl:=Le.new (e:=mkEnt [.slice x.ia x.inh.length x.ic,.slice x.sa x.syn.length x.sc] 0) hn
  refine c55 ok (l:=x.inh) (m:=x.syn) (if_pos rfl) (hl.kold h1) (hl.kold h2) (by omega) fun a2 c2 H3 o=>⟨a2,_,c2,rfl,c41 ok (o.g.ok (by decide)) o.row (by simp; omega) fun b hb=>⟨b,rfl,hq b H3 (hl.trans o.le) ⟨fun y=>⟨z,hb.1 y⟩,fun y=>hb.2 y.b⟩⟩⟩
 .have:=of_decide_eq_false z
  have:=y.a
  omega
theorem c43 {g:Gm} {H:KH} {Q:PQ} (hg:GI H g) (hs:g.nts.length<=1000) (hf:∀ i (h:i<g.nts.length),g.nts[i].inh.length<=1000/\g.nts[i].syn.length<=1000) (hq:∀ b H',Le H H'->(b=true↔∀ i (h:i<g.nts.length),AttrsOk g.nts[i])->Q (.bool b) H'):Does (env Try.prog) 43 [.slice g.na g.nts.length g.nc,.func (.func 44) #[] #[]] H Q:=by
 refine fn43 ok ?_
 show vc43_L1 _ _ _ _ _ _
 unfold vc43_L1
 refine ⟨fun k n4 l5 a6 n7 n8 x9 x10 H11=>n4=44/\l5=[]/\a6=g.na/\n7=g.nts.length/\x9=g.nts.length/\Le H H11/\∃ i:Nat,x10=i/\i<=g.nts.length/\k=g.nts.length-i/\∀ j (hj:j<g.nts.length),j<i->AttrsOk g.nts[j],⟨_,rfl,rfl,rfl,rfl,rfl,Le.refl H,0,rfl,by omega,rfl,fun j _ z=>absurd z (by omega)⟩,?_⟩
 rintro k n4 l5 a6 n7 n8 x9 x10 H11 ⟨rfl,rfl,rfl,rfl,rfl,hle,i,rfl,hi,rfl,hv⟩
 refine ⟨fun hlt=>?_,fun hge=>?_⟩
 .have hlt:i<g.nts.length:=by have:=of_decide_eq_true hlt; omega
  have e0:Int.toNat ((i:Nat):Int)=i:=by omega
  have hi1:IntKind.wrap .i64 (((i:Nat):Int)+1)=((i+1:Nat):Int):=by rw [wrap64 (by omega) (by omega)]; omega
  obtain ⟨b0,o0,ha,r0⟩:=nt_ld (hle.kold hg.n) hlt
  rw [e0,hi1]
  refine ⟨⟨by omega,by omega⟩,b0,o0,ha,_,_,_,_,_,_,_,r0,c44 ok (x:=g.nts[i]) (hle.kold (hg.ni i hlt).1) (hle.kold (hg.ni i hlt).2) (hf i hlt).1 (hf i hlt).2 fun b H2 h2 hb=>⟨b,rfl,fun z=>?_,fun z=>?_⟩⟩
  .refine hq false H2 (hle.trans h2) ⟨fun y=>(by cases y),fun y=>?_⟩
   have:=hb.2 (y i hlt)
   rw [this] at z; cases z
  .have bt:b=true:=by cases b; cases z; rfl
   refine ⟨g.nts.length-(i+1),by omega,rfl,rfl,rfl,rfl,rfl,hle.trans h2,i+1,rfl,by omega,rfl,fun j hj z=>?_⟩
   by_cases y:j=i
   .subst y; exact hb.1 bt
   .exact hv j hj (by omega)
 .have hge:i=g.nts.length:=by have:=of_decide_eq_false hge; omega
  subst hge
  exact hq true _ hle ⟨fun _ j hj=>hv j hj hj,fun _=>rfl⟩
theorem c59 {g:Gm} {s:Sy} {H:KH} {Q:PQ} (hg:GI H g) (hq:∀ b,(b=true↔SymOk g.toks g.nts.length s)->Q (.bool b) H):Does (env Try.prog) 59 [gv g,syV s] H Q:=by
 refine fn59 ok ⟨fun z=>c69 ok fun b hb=>⟨b,rfl,fun z2=>?_,fun z2=>?_⟩,fun z=>c56 ok fun b hb=>⟨b,rfl,hq b ?_⟩⟩
 .have hp:=hb.1 z2
  have hlt:s.pos.toNat<g.toks.length:=by omega
  obtain ⟨b0,o0,ha,r0⟩:=tk_ld hg.t hlt
  refine ⟨⟨hp.1,hp.2⟩,b0,o0,ha,rfl,_,ldSub r0 2 1 (by simp),hq _ ?_⟩
  rw [Bool.not_eq_true']
  exact ⟨fun y=>⟨hp.1,fun _=>⟨hlt,y⟩,fun y=>(by rw [z] at y; cases y)⟩,fun y=>(y.b z).2⟩
 .refine hq false ⟨fun y=>(by cases y),fun y=>?_⟩
  obtain ⟨h,_⟩:=y.b z
  have:=y.a
  have:=hb.2 ⟨this,by omega⟩
  rw [z2] at this; cases this
 .rw [hb]
  exact ⟨fun y=>⟨y.1,fun w=>(by rw [z] at w; cases w),fun _=>y.2⟩,fun y=>⟨y.a,y.c z⟩⟩
theorem c58 {g:Gm} {a:OA} {c:Nat} {l:List Sy} {H:KH} {Q:PQ} (hg:GI H g) (hl:kold H 2 a l.length=some (syC l)) (hs:l.length<=1000000) (hq:∀ b,(b=true↔∀ i (h:i<l.length),SymOk g.toks g.nts.length l[i])->Q (.bool b) H):Does (env Try.prog) 58 [.slice a l.length c,.func (.func 59) #[gv g] #[]] H Q:=by
 refine fn58 ok (p1:=59) (p1k:=[gv g]) ?_
 show vc58_L1 _ _ _ _ _ _ _
 unfold vc58_L1
 refine ⟨fun k n4 l5 a6 n7 n8 x9 x10 H11=>n4=59/\l5=[gv g]/\a6=a/\n7=l.length/\x9=l.length/\H11=H/\∃ i:Nat,x10=i/\i<=l.length/\k=l.length-i/\∀ j (hj:j<l.length),j<i->SymOk g.toks g.nts.length l[j],⟨_,rfl,rfl,rfl,rfl,rfl,rfl,0,rfl,by omega,rfl,fun j _ z=>absurd z (by omega)⟩,?_⟩
 rintro k n4 l5 a6 n7 n8 x9 x10 H11 ⟨rfl,rfl,rfl,rfl,rfl,rfl,i,rfl,hi,rfl,hv⟩
 refine ⟨fun hlt=>?_,fun hge=>?_⟩
 .have hlt:i<l.length:=by have:=of_decide_eq_true hlt; omega
  have e0:Int.toNat ((i:Nat):Int)=i:=by omega
  have hi1:IntKind.wrap .i64 (((i:Nat):Int)+1)=((i+1:Nat):Int):=by rw [wrap64 (by omega) (by omega)]; omega
  obtain ⟨b0,o0,ha,r0⟩:=sy_ld hl hlt
  rw [e0,hi1]
  refine ⟨⟨by omega,by omega⟩,b0,o0,ha,_,_,r0,c59 ok (g:=g) (s:=l[i]) hg fun b hb=>⟨b,rfl,fun z=>?_,fun z=>?_⟩⟩
  .refine hq false ⟨fun y=>(by cases y),fun y=>?_⟩
   have:=hb.2 (y i hlt)
   rw [this] at z; cases z
  .have bt:b=true:=by cases b; cases z; rfl
   refine ⟨l.length-(i+1),by omega,rfl,rfl,rfl,rfl,rfl,rfl,i+1,rfl,by omega,rfl,fun j hj z=>?_⟩
   by_cases y:j=i
   .subst y; exact hb.1 bt
   .exact hv j hj (by omega)
 .have hge:i=l.length:=by have:=of_decide_eq_false hge; omega
  subst hge
  exact hq true ⟨fun _ j hj=>hv j hj hj,fun _=>rfl⟩
theorem c46 {g:Gm} {x:Pr} {H:KH} {Q:PQ} (hg:GI H g) (hx:kold H 2 x.ra x.right.length=some (syC x.right)) (hs:x.right.length<=1000000000) (hq:∀ b,(b=true↔ProdOk g.toks g.nts.length x)->Q (.bool b) H):Does (env Try.prog) 46 [gv g,prV x] H Q:=by
 refine fn46 ok (c56 ok fun b hb=>⟨b,rfl,fun z=>c57 ok fun b2 h2=>⟨b2,rfl,fun z2=>?_,fun z2=>hq false ⟨fun y=>(by cases y),fun y=>?_⟩⟩,fun z=>hq false ⟨fun y=>(by cases y),fun y=>?_⟩⟩)
 .have h2:=h2.1 z2
  exact c58 ok hg hx (by omega) fun b3 h3=>⟨b3,rfl,hq b3 ⟨fun y=>⟨hb.1 z,by omega,h3.1 y⟩,fun y=>h3.2 y.c⟩⟩
 .have:=h2.2 ⟨by omega,by have:=y.b; omega⟩
  rw [z2] at this; cases this
 .have:=hb.2 y.a
  rw [z] at this; cases this
theorem c45 {g:Gm} {H:KH} {Q:PQ} (hg:GI H g) (hs:g.prods.length<=1000) (hf:∀ i (h:i<g.prods.length),g.prods[i].right.length<=1000) (hq:∀ b,(b=true↔∀ i (h:i<g.prods.length),ProdOk g.toks g.nts.length g.prods[i])->Q (.bool b) H):Does (env Try.prog) 45 [.slice g.pa g.prods.length g.pc,.func (.func 46) #[gv g] #[]] H Q:=by
 refine fn45 ok (p1:=46) (p1k:=[gv g]) ?_
 show vc45_L1 _ _ _ _ _ _ _
 unfold vc45_L1
 refine ⟨fun k n4 l5 a6 n7 n8 x9 x10 H11=>n4=46/\l5=[gv g]/\a6=g.pa/\n7=g.prods.length/\x9=g.prods.length/\H11=H/\∃ i:Nat,x10=i/\i<=g.prods.length/\k=g.prods.length-i/\∀ j (hj:j<g.prods.length),j<i->ProdOk g.toks g.nts.length g.prods[j],⟨_,rfl,rfl,rfl,rfl,rfl,rfl,0,rfl,by omega,rfl,fun j _ z=>absurd z (by omega)⟩,?_⟩
 rintro k n4 l5 a6 n7 n8 x9 x10 H11 ⟨rfl,rfl,rfl,rfl,rfl,rfl,i,rfl,hi,rfl,hv⟩
 refine ⟨fun hlt=>?_,fun hge=>?_⟩
 .have hlt:i<g.prods.length:=by have:=of_decide_eq_true hlt; omega
  have e0:Int.toNat ((i:Nat):Int)=i:=by omega
  have hi1:IntKind.wrap .i64 (((i:Nat):Int)+1)=((i+1:Nat):Int):=by rw [wrap64 (by omega) (by omega)]; omega
  obtain ⟨b0,o0,ha,r0⟩:=pr_ld hg.p hlt
  rw [e0,hi1]
  refine ⟨⟨by omega,by omega⟩,b0,o0,ha,_,_,_,_,_,_,_,r0,c46 ok (g:=g) (x:=g.prods[i]) hg (hg.pi i hlt).1 (by have:=hf i hlt; omega) fun b hb=>⟨b,rfl,fun z=>?_,fun z=>?_⟩⟩
  .refine hq false ⟨fun y=>(by cases y),fun y=>?_⟩
   have:=hb.2 (y i hlt)
   rw [this] at z; cases z
  .have bt:b=true:=by cases b; cases z; rfl
   refine ⟨g.prods.length-(i+1),by omega,rfl,rfl,rfl,rfl,rfl,rfl,i+1,rfl,by omega,rfl,fun j hj z=>?_⟩
   by_cases y:j=i
   .subst y; exact hb.1 bt
   .exact hv j hj (by omega)
 .have hge:i=g.prods.length:=by have:=of_decide_eq_false hge; omega
  subst hge
  exact hq true ⟨fun _ j hj=>hv j hj hj,fun _=>rfl⟩
theorem c32 {g:Gm} {H:KH} {Q:PQ} (hg:GI H g) (hf:Few g) (hq:∀ b H',Le H H'->(b=true↔MayG g)->Q (.bool b) H'):Does (env Try.prog) 32 [gv g] H Q:=by
 have no:∀ {b:Bool} {R:Prop},(!b)=true->(b=true↔R)->¬ R:=fun {b R} z h r=>by
  have:=h.2 r
  rw [this] at z; cases z
 have yes:∀ {b:Bool} {R:Prop},(!b)=false->(b=true↔R)->R:=fun {b R} z h=>h.1 (by cases b; cases z; rfl)
 have nq:∀ {H'},Le H H'->¬ MayG g->Q (.bool false) H':=fun hl h=>hq false _ hl ⟨fun y=>(by cases y),fun y=>absurd y h⟩
 refine fn32 ok (c38 ok fun b1 h1=>⟨b1,rfl,fun z1=>nq (Le.refl H) fun y=>no z1 h1 ?_,fun z1=>c39 ok fun b2 h2=>⟨b2,rfl,fun z2=>nq (Le.refl H) fun y=>no z2 h2 ?_,fun z2=>c40 ok fun b3 h3=>⟨b3,rfl,fun z3=>nq (Le.refl H) fun y=>no z3 h3 ?_,fun z3=>?_⟩⟩⟩)
 .have:=y.t; omega
 .have:=y.n; omega
 .have:=y.p; omega
 have y1:=yes z1 h1
 have y2:=yes z2 h2
 have y3:=yes z3 h3
 refine c42 ok hg (by omega) fun a c H2 o=>⟨a,_,c,rfl,c41 ok (o.g.ok (by decide)) o.row (by unfold namesG; simp; omega) fun b4 h4=>⟨b4,rfl,fun z4=>?_,fun z4=>nq o.le fun y=>?_⟩⟩
 .refine c43 ok (hg.up o.le) (by omega) (fun i h=>⟨(hf.ns i h).2.1,(hf.ns i h).2.2.1⟩) fun b5 H5 l5 h5=>⟨b5,rfl,fun z5=>?_,fun z5=>nq (o.le.trans l5) fun y=>?_⟩
  .exact c45 ok ((hg.up o.le).up l5) (by omega) hf.ps fun b6 h6=>⟨b6,rfl,hq b6 H5 (o.le.trans l5) ⟨fun y=>⟨by omega,by omega,by omega,h4.1 z4,h5.1 z5,h6.1 y⟩,fun y=>h6.2 y.pr⟩⟩
  .have:=h5.2 y.at_
   rw [z5] at this; cases this
 .have:=h4.2 y.nm
  rw [z4] at this; cases this
theorem c20 {g:Gm} {H:KH} {Q:PQ} (hg:GI H g) (hf:Few g) (hq:∀ b H',Le H H'->(b=true↔MayG g)->Q (.bool b) H'):Does (env Try.prog) 20 [gv g] H Q :=
 fn20 ok (c31 ok (v:=.bool true) ⟨_,_,_,_,_,_,_,_,_,rfl,c32 ok hg hf fun b H' hl hb=>⟨b,rfl,hq b H' hl hb⟩⟩)
end
end Va
end Go.Proofs.Ytibkijpnkmccpaa
namespace Go.Ew
open Go.Ev Go.Deep
def SndN (G:List Pr) (X:Int->Int->Bool):Prop:=∀ i,X i 0=true->Nul G i
def ClsN (G:List Pr) (X:Int->Int->Bool):Prop:=∀ p∈G,(∀ s∈p.right,s.tok=false/\X s.pos 0=true)->X p.left 0=true
def SndF (G:List Pr) (X:Int->Int->Bool):Prop:=∀ i t,X i t=true->Fst G i t
def ClsF (G:List Pr) (nl:Int->Bool) (X:Int->Int->Bool):Prop:=∀ p∈G,∀ t,(ofK nl X p.right).1 t=true->X p.left t=true
def SndL (G:List Pr) (M:Int) (X:Int->Int->Bool):Prop:=∀ i t,X i t=true->Flw G M i t
def ClsP (nl:Int->Bool) (fs X:Int->Int->Bool) (p:Pr):Prop:=∀ u s v,p.right=u++s :: v->s.tok=false->∀ t,((ofK nl fs v).1 t||((ofK nl fs v).2&&X p.left t))=true->X s.pos t=true
def IsN (G:List Pr) (nl:Int->Bool):Prop:=∀ i,nl i=true↔Nul G i
def IsF (G:List Pr) (fs:Int->Int->Bool):Prop:=∀ i t,fs i t=true↔Fst G i t
def IsL (G:List Pr) (M:Int) (fl:Int->Int->Bool):Prop:=∀ i t,fl i t=true↔Flw G M i t
theorem isN_of {G:List Pr} {X:Int->Int->Bool} (h1:SndN G X) (h2:ClsN G X):IsN G fun i=>X i 0:=fun i=>⟨h1 i,nul_all (nl:=fun i=>X i 0) h2 i⟩
theorem isF_of {G:List Pr} {nl:Int->Bool} {X:Int->Int->Bool} (hn:IsN G nl) (h1:SndF G X) (h2:ClsF G nl X):IsF G X:=fun i t=>⟨h1 i t,fst_all (fun x h=>(hn x).2 h) h2 i t⟩
theorem isL_of {G:List Pr} {M:Int} {nl:Int->Bool} {fs X:Int->Int->Bool} (hn:IsN G nl) (hf:IsF G fs) (h1:SndL G M X) (h0:X 0 M=true) (h2:∀ p∈G,ClsP nl fs X p):IsL G M X:=fun i t=>⟨h1 i t,flw_all (fun x h=>(hn x).2 h) (fun x t h=>(hf x t).2 h) h0 h2 i t⟩
theorem isN_eq {G:List Pr} {f g:Int->Bool} (hf:IsN G f) (hg:IsN G g):f=g:=funext fun i=>Bool.eq_iff_iff.2 ((hf i).trans (hg i).symm)
theorem isF_eq {G:List Pr} {f g:Int->Int->Bool} (hf:IsF G f) (hg:IsF G g):f=g:=funext fun i=>funext fun t=>Bool.eq_iff_iff.2 ((hf i t).trans (hg i t).symm)
theorem isL_eq {G:List Pr} {M:Int} {f g:Int->Int->Bool} (hf:IsL G M f) (hg:IsL G M g):f=g:=funext fun i=>funext fun t=>Bool.eq_iff_iff.2 ((hf i t).trans (hg i t).symm)
def Rnd (E:Env) (f:Nat) (caps:List Value) (Z:KH) (N k:Nat) (row:(Int->Int->Bool)->Int->List Value) (P:(Int->Int->Bool)->Prop) (C:(Int->Int->Bool)->Prop):Prop :=
 ∀ (H:KH) (p b:Nat) (X:Int->Int->Bool) (Q:PQ),Gw Z H p b N (row X) false->InN N X k->P X->
  (∀ H' X' b',Gw Z H' p b N (row X') b'->InN N X' k->P X'->Stp X X' b'->(b'=false->C X)->Q (.tuple #[]) H')->Does E f ([.pointer (some ⟨p,0,none⟩)]++caps) H Q
theorem Gw.init {H:KH} {n1 n2 N:Nat} {h:Int->List Value} (h1:H n1=none) (h2:(H.new n1 (mkEnt (famC h N) 0)) n2=none):Gw H (((H.new n1 (mkEnt (famC h N) 0)).new n2 (mkEnt [.slice none 0 0,.bool false] 0)).put ⟨n2,0,none⟩ [.slice (some ⟨n1,0,none⟩) N N,.bool true]) n2 n1 N h true:=by
 have hne:n2≠n1:=fun e=>by rw [e] at h2; simp [KH.new] at h2
 have hn2:H n2=none:=(Le.new h1).none h2
 have w:Bxs H ((H.new n1 (mkEnt (famC h N) 0)).new n2 (mkEnt [.slice none 0 0,.bool false] 0)) (fun _:Bool=>True) (gwN n2 n1) (fun b=>match b with
  | true=>[.slice none 0 0,.bool false]
  | false=>famC h N):=by
  refine ⟨(Le.new h1).trans (Le.new h2),fun i _=>?_,fun i _=>?_,fun i j _ _ e=>?_⟩
  .cases i
   .exact h1
   .exact hn2
  .cases i
   .exact ⟨_,new_at (if_pos rfl) (Ne.symm hne),rfl,mk_rd⟩
   .exact ⟨_,if_pos rfl,rfl,mk_rd⟩
  .cases i<;>cases j<;>first | rfl | exact (hne e).elim | exact (hne e.symm).elim
 exact Bxs.put w (j:=true) trivial (xs:=[]) (ys:=[.slice none 0 0,.bool false]) (zs:=[]) (vs:=[.slice (some ⟨n1,0,none⟩) N N,.bool true]) rfl rfl (cs':=gwS n1 N h true) rfl fun i _ hi=>by cases i; rfl; exact absurd rfl hi
theorem SymsIn.of {g:Gm} (h:MayG g) {i:Nat} (hi:i<g.prods.length):SymsIn g.toks.length g.nts.length g.prods[i].right:=fun s hs=>by
 obtain ⟨k,hk,rfl⟩:=List.mem_iff_getElem.1 hs
 have:=(h.pr i hi).c k hk
 exact ⟨this.a,fun q=>by obtain ⟨w,_⟩:=this.b q; have:=this.a; omega,fun q=>this.c q⟩
end Go.Ew
namespace Go.Proofs.Ytibkijpnkmccpaa
open Go.Ev Go.Ew
namespace Va
section
variable (ok : EnvOk (env Try.prog))
include ok
theorem c80 {f N:Nat} {caps:List Value} {P C:(Int->Int->Bool)->Prop} {H:KH} {Q:PQ} (hr:Rnd (env Try.prog) f caps H N 1 rowN1 P C) (hP0:P fun _ _=>false) (hN:N<=1000)
 (hq:∀ b H' X,Le H H'->H b=none->kold H' 1 (some ⟨b,0,none⟩) N=some (famC (rowN1 X) N)->InN N X 1->P X->C X->Q (.slice (some ⟨b,0,none⟩) N N) H'):Does (env Try.prog) 80 [.int .i64 N,.func (.func f) #[] caps.toArray] H Q:=by
 refine fn80 ok (p1:=f) (p1k:=caps) ⟨⟨by omega,by omega,by omega⟩,fun n1 h1 n2 h2=>?_⟩
 have eN:Int.toNat ((N:Nat):Int)=N:=by omega
 have e0:lrep [.bool false] N=famC (rowN1 fun _ _=>false) N:=fam_rep (h:=rowN1 fun _ _=>false) fun _ _=>rfl
 rw [eN,e0] at h2 ⊢
 refine ⟨⟨[.slice none 0 0,.bool false],rfl,⟨rfl,_,if_pos rfl,mk_rd⟩⟩,⟨_,if_pos rfl,rfl⟩,?_⟩
 have w0:=Gw.init h1 h2
 unfold vc80_L1
 rw [eN,e0]
 refine ⟨fun k n4 l5 n6 n7 H8=>n4=f/\l5=caps/\n6=n2/\n7=0/\∃ X c,Gw H H8 n2 n1 N (rowN1 X) c/\InN N X 1/\P X/\(c=false->C X)/\k=if c=true then miss N 1 X+1 else 0,⟨_,rfl,rfl,rfl,rfl,rfl,_,true,w0,fun _ _ q=>(by cases q),hP0,fun q=>(by cases q),rfl⟩,?_⟩
 rintro k n4 l5 n6 n7 H8 ⟨rfl,rfl,rfl,rfl,X,c,w,hX,hP,hC,rfl⟩
 refine ⟨rfl,c,w.ldG,fun z=>?_,fun z=>?_⟩
 .subst z
  refine ⟨rfl,⟨[.bool true],rfl,w.ldG⟩,w.mayS,hr _ _ _ X _ (w.putG false) hX hP fun H' X' b' w' hX' hP' hst hcl=>⟨rfl,_,?_,rfl,rfl,rfl,rfl,rfl,X',b',w',hX',hP',fun q=>?_,rfl⟩⟩
  .cases b'
   .rw [if_neg (by simp),if_pos rfl]; omega
   .rw [if_pos rfl,if_pos rfl]; have:=hst.miss hX'; omega
  .rw [hst.no q]; exact hcl q
 .subst z
  exact ⟨rfl,_,_,_,w.ldS,hq n1 H8 X w.le h1 (Bxs.kold w (j:=false) trivial (by rw [show gwS n1 N (rowN1 X) false false=famC (rowN1 X) N from rfl,fam_len (k:=1) fun _=>rfl])) hX hP (hC rfl)⟩
theorem c70 {f N:Nat} {caps:List Value} {P C:(Int->Int->Bool)->Prop} {H:KH} {Q:PQ} (hr:Rnd (env Try.prog) f caps H N 9 rowK P C) (hP0:P fun _ _=>false) (hN:N<=1000)
 (hq:∀ b H' X,Le H H'->H b=none->kold H' 9 (some ⟨b,0,none⟩) N=some (famC (rowK X) N)->InN N X 9->P X->C X->Q (.slice (some ⟨b,0,none⟩) N N) H'):Does (env Try.prog) 70 [.int .i64 N,.func (.func f) #[] caps.toArray] H Q:=by
 refine fn70 ok (p1:=f) (p1k:=caps) ⟨⟨by omega,by omega,by omega⟩,fun n1 h1 n2 h2=>?_⟩
 have eN:Int.toNat ((N:Nat):Int)=N:=by omega
 have e0:lrep [.bool false,.bool false,.bool false,.bool false,.bool false,.bool false,.bool false,.bool false,.bool false] N=famC (rowK fun _ _=>false) N:=fam_rep (h:=rowK fun _ _=>false) fun _ _=>rfl
 rw [eN,e0] at h2 ⊢
 refine ⟨⟨[.slice none 0 0,.bool false],rfl,⟨rfl,_,if_pos rfl,mk_rd⟩⟩,⟨_,if_pos rfl,rfl⟩,?_⟩
 have w0:=Gw.init h1 h2
 unfold vc70_L1
 rw [eN,e0]
 refine ⟨fun k n4 l5 n6 n7 H8=>n4=f/\l5=caps/\n6=n2/\n7=0/\∃ X c,Gw H H8 n2 n1 N (rowK X) c/\InN N X 9/\P X/\(c=false->C X)/\k=if c=true then miss N 9 X+1 else 0,⟨_,rfl,rfl,rfl,rfl,rfl,_,true,w0,fun _ _ q=>(by cases q),hP0,fun q=>(by cases q),rfl⟩,?_⟩
 rintro k n4 l5 n6 n7 H8 ⟨rfl,rfl,rfl,rfl,X,c,w,hX,hP,hC,rfl⟩
 refine ⟨rfl,c,w.ldG,fun z=>?_,fun z=>?_⟩
 .subst z
  refine ⟨rfl,⟨[.bool true],rfl,w.ldG⟩,w.mayS,hr _ _ _ X _ (w.putG false) hX hP fun H' X' b' w' hX' hP' hst hcl=>⟨rfl,_,?_,rfl,rfl,rfl,rfl,rfl,X',b',w',hX',hP',fun q=>?_,rfl⟩⟩
  .cases b'
   .rw [if_neg (by simp),if_pos rfl]; omega
   .rw [if_pos rfl,if_pos rfl]; have:=hst.miss hX'; omega
  .rw [hst.no q]; exact hcl q
 .subst z
  exact ⟨rfl,_,_,_,w.ldS,hq n1 H8 X w.le h1 (Bxs.kold w (j:=false) trivial (by rw [show gwS n1 N (rowK X) false false=famC (rowK X) N from rfl,fam_len (k:=9) fun _=>rfl])) hX hP (hC rfl)⟩
theorem c81 {Z:KH} {k0:Nat} {g:Gm} (hk:ld Z ⟨k0,0,none⟩ [.slice g.ta g.toks.length g.tc,.slice g.na g.nts.length g.nc,.slice g.pa g.prods.length g.pc]) (hg:GI Z g) (hm:MayG g) :
 Rnd (env Try.prog) 81 [.pointer (some ⟨k0,0,none⟩)] Z g.nts.length 1 rowN1 (SndN g.prods) (ClsN g.prods):=by
 intro H p b X Q w hX hP hq
 refine fn81 ok ⟨rfl,_,_,_,ldSub (m:=1) (w.le.ld hk) 2 (by simp),?_⟩
 show vc81_L1 _ _ _ _ _ _ _
 unfold vc81_L1
 refine ⟨fun k n4 n5 a6 n7 n8 x9 x10 H11=>n4=p/\n5=0/\a6=g.pa/\n7=g.prods.length/\x9=g.prods.length/\∃ (i:Nat) (Y:Int->Int->Bool) (c:Bool),x10=i/\i<=g.prods.length/\k=g.prods.length-i/\Gw Z H11 p b g.nts.length (rowN1 Y) c/\InN g.nts.length Y 1/\SndN g.prods Y/\Stp X Y c/\(c=false->∀ j (hj:j<g.prods.length),j<i->(∀ s∈g.prods[j].right,s.tok=false/\X s.pos 0=true)->X g.prods[j].left 0=true),⟨g.prods.length,rfl,rfl,rfl,rfl,rfl,rfl,0,X,false,rfl,by omega,rfl,w,hX,hP,Stp.refl X,fun _ j _ z=>absurd z (by omega)⟩,?_⟩
 rintro k n4 n5 a6 n7 n8 x9 x10 H11 ⟨rfl,rfl,rfl,rfl,rfl,i,Y,c,rfl,hi,rfl,w,hY,hS,hst,hc⟩
 refine ⟨fun z=>?_,fun z=>?_⟩
 .have z:i<g.prods.length:=by have:=of_decide_eq_true z; omega
  have e0:Int.toNat ((i:Nat):Int)=i:=by omega
  have hi1:IntKind.wrap .i64 (((i:Nat):Int)+1)=((i+1:Nat):Int):=by have:=hm.p; rw [wrap64 (by omega) (by omega)]; omega
  have hg':=hg.up w.le
  obtain ⟨b0,o0,ha,r0⟩:=pr_ld hg'.p z
  have hpo:=hm.pr i z
  rw [e0,hi1]
  refine ⟨⟨by omega,by omega⟩,b0,o0,ha,_,_,_,_,_,_,_,r0,trivial,rfl,_,_,_,w.ldS,?_⟩
  refine c83 ok (nl:=fun i=>Y i 0) (M:=g.toks.length) (N:=g.nts.length) (hg'.pi i z).1 (Bxs.kold w (j:=false) trivial (by rw [show gwS b g.nts.length (rowN1 Y) c false=famC (rowN1 Y) g.nts.length from rfl,fam_len (k:=1) fun _=>rfl])) (SymsIn.of hm z) (by have:=hpo.b; omega) fun m hmm=>⟨m,rfl,⟨rfl,⟨rfl,rfl⟩,rfl,trivial⟩,?_⟩
  refine c82 ok w hpo.a.1 hpo.a.2 fun H' c' w' k1 k2=>⟨rfl,trivial,g.prods.length-(i+1),by omega,rfl,rfl,rfl,rfl,rfl,rfl,i+1,_,c',rfl,by omega,rfl,w',up_in hY hpo.a (fun t q=>?_),fun x q=>?_,hst.add k1 k2,fun q j hj zz hr=>?_⟩
  .simp only [Bool.and_eq_true,decide_eq_true_eq] at q; omega
  .simp only [Up,Bool.or_eq_true,Bool.and_eq_true,decide_eq_true_eq] at q
   rcases q with q | ⟨rfl,_,q⟩
   .exact hS x q
   .exact NulR.left (List.getElem_mem z) fun s hs=>⟨(hmm.1 q s hs).1,hS _ (hmm.1 q s hs).2⟩
  .obtain ⟨q1,q2⟩:=k2 q
   by_cases y:j=i
   .subst y
    rw [hst.no q1] at hmm q2
    exact q2 0 (by rw [hmm.2 hr]; rfl)
   .exact hc q1 j hj (by omega) hr
 .have z:i=g.prods.length:=by have:=of_decide_eq_false z; omega
  subst z
  exact hq H11 Y c w hY hS hst fun q p hp=>by
   obtain ⟨j,hj,rfl⟩:=List.mem_iff_getElem.1 hp
   exact hc q j hj hj
theorem c75 {g:Gm} {H:KH} {Q:PQ} (hg:GI H g) (hm:MayG g) (hq:∀ b H' nl,Le H H'->H b=none->kold H' 1 (some ⟨b,0,none⟩) g.nts.length=some (famC (bit1 nl) g.nts.length)->IsN g.prods nl->Q (.slice (some ⟨b,0,none⟩) g.nts.length g.nts.length) H'):Does (env Try.prog) 75 [gv g] H Q:=by
 refine fn75 ok fun n1 h1=>?_
 have hl:=Le.new (e:=mkEnt [.slice g.ta g.toks.length g.tc,.slice g.na g.nts.length g.nc,.slice g.pa g.prods.length g.pc] 0) h1
 have r:ld (H.new n1 (mkEnt [.slice g.ta g.toks.length g.tc,.slice g.na g.nts.length g.nc,.slice g.pa g.prods.length g.pc] 0)) ⟨n1,0,none⟩ [.slice g.ta g.toks.length g.tc,.slice g.na g.nts.length g.nc,.slice g.pa g.prods.length g.pc]:=⟨rfl,_,if_pos rfl,mk_rd⟩
 refine ⟨rfl,_,_,_,ldSub (m:=1) r 1 (by simp),c80 ok (caps:=[.pointer (some ⟨n1,0,none⟩)]) (c81 ok r (hg.up hl) hm) (fun i q=>by cases q) (by have:=hm.n; omega) fun b H' X l hb hk hX hP hC=>⟨_,_,_,rfl,?_⟩⟩
 exact hq b H' (fun i=>X i 0) (hl.trans l) (hl.none hb) hk (isN_of hP hC)
theorem c84 {Z:KH} {k0 k1:Nat} {g:Gm} {na:OA} {nc:Nat} {nl:Int->Bool} (hk:ld Z ⟨k0,0,none⟩ [.slice g.ta g.toks.length g.tc,.slice g.na g.nts.length g.nc,.slice g.pa g.prods.length g.pc]) (hk1:ld Z ⟨k1,0,none⟩ [.slice na g.nts.length nc]) (hn:kold Z 1 na g.nts.length=some (famC (bit1 nl) g.nts.length)) (hN:IsN g.prods nl) (hg:GI Z g) (hm:MayG g) :
 Rnd (env Try.prog) 84 [.pointer (some ⟨k0,0,none⟩),.pointer (some ⟨k1,0,none⟩)] Z g.nts.length 9 rowK (SndF g.prods) (ClsF g.prods nl):=by
 intro H p b X Q w hX hP hq
 refine fn84 ok ⟨rfl,_,_,_,ldSub (m:=1) (w.le.ld hk) 2 (by simp),?_⟩
 show vc84_L1 _ _ _ _ _ _ _ _ _ _ _
 unfold vc84_L1
 refine ⟨fun k n4 n5 n6 n7 n8 n9 a10 n11 n12 x13 x14 H15=>n4=p/\n5=0/\n6=k0/\n7=0/\n8=k1/\n9=0/\a10=g.pa/\n11=g.prods.length/\x13=g.prods.length/\∃ (i:Nat) (Y:Int->Int->Bool) (c:Bool),x14=i/\i<=g.prods.length/\k=g.prods.length-i/\Gw Z H15 p b g.nts.length (rowK Y) c/\InN g.nts.length Y 9/\SndF g.prods Y/\Stp X Y c/\(c=false->∀ j (hj:j<g.prods.length),j<i->∀ t,(ofK nl X g.prods[j].right).1 t=true->X g.prods[j].left t=true),⟨g.prods.length,rfl,rfl,rfl,rfl,rfl,rfl,rfl,rfl,rfl,rfl,rfl,rfl,0,X,false,rfl,by omega,rfl,w,hX,hP,Stp.refl X,fun _ j _ z=>absurd z (by omega)⟩,?_⟩
 rintro k n4 n5 n6 n7 n8 n9 a10 n11 n12 x13 x14 H15 ⟨rfl,rfl,rfl,rfl,rfl,rfl,rfl,rfl,rfl,i,Y,c,rfl,hi,rfl,w,hY,hS,hst,hc⟩
 refine ⟨fun z=>?_,fun z=>?_⟩
 .have z:i<g.prods.length:=by have:=of_decide_eq_true z; omega
  have e0:Int.toNat ((i:Nat):Int)=i:=by omega
  have hi1:IntKind.wrap .i64 (((i:Nat):Int)+1)=((i+1:Nat):Int):=by have:=hm.p; rw [wrap64 (by omega) (by omega)]; omega
  have hg':=hg.up w.le
  obtain ⟨b0,o0,ha,r0⟩:=pr_ld hg'.p z
  have hpo:=hm.pr i z
  rw [e0,hi1]
  refine ⟨⟨by omega,by omega⟩,b0,o0,ha,_,_,_,_,_,_,_,r0,trivial,rfl,_,_,_,ldSub (m:=1) (w.le.ld hk) 0 (by simp),_,_,_,w.le.ld hk1,rfl,_,_,_,w.ldS,?_⟩
  have hsy:=SymsIn.of hm z
  refine c63 ok (nl:=nl) (fs:=Y) (w.le.kold hn) (Bxs.kold w (j:=false) trivial (by rw [show gwS b g.nts.length (rowK Y) c false=famC (rowK Y) g.nts.length from rfl,fam_len (k:=9) fun _=>rfl])) (hg'.pi i z).1 hsy hm.t.2 (by have:=hpo.b; omega) fun H20 l20=>⟨_,_,_,_,_,_,_,_,_,_,rfl,trivial,⟨rfl,trivial⟩,?_⟩
  have hin:In9 (ofK nl Y g.prods[i].right).1:=ofK_mem (B:=fun t=>0<=t/\t<9) (fun x t q=>(hY x t q).2) fun s hs q=>⟨(hsy s hs).1,by have:=(hsy s hs).2.1 q; have:=hm.t; omega⟩
  refine c72 ok (Bxs.up w l20) hpo.a.1 hpo.a.2 hin fun H' c' w' k1 k2=>⟨rfl,g.prods.length-(i+1),by omega,rfl,rfl,rfl,rfl,rfl,rfl,rfl,rfl,rfl,rfl,rfl,rfl,i+1,_,c',rfl,by omega,rfl,w',up_in hY hpo.a hin,fun x t q=>?_,hst.add k1 k2,fun q j hj zz t hr=>?_⟩
  .simp only [Up,Bool.or_eq_true,Bool.and_eq_true,decide_eq_true_eq] at q
   rcases q with q | ⟨rfl,q⟩
   .exact hS x t q
   .exact FstR.left (List.getElem_mem z) ((ofK_sound (fun x h=>(hN x).1 h) hS _).2 t q)
  .obtain ⟨q1,q2⟩:=k2 q
   by_cases y:j=i
   .subst y
    rw [hst.no q1] at q2
    exact q2 t hr
   .exact hc q1 j hj (by omega) t hr
 .have z:i=g.prods.length:=by have:=of_decide_eq_false z; omega
  subst z
  exact hq H15 Y c w hY hS hst fun q p hp=>by
   obtain ⟨j,hj,rfl⟩:=List.mem_iff_getElem.1 hp
   exact hc q j hj hj
theorem c76 {g:Gm} {na:OA} {nc:Nat} {nl:Int->Bool} {H:KH} {Q:PQ} (hg:GI H g) (hm:MayG g) (hn:kold H 1 na g.nts.length=some (famC (bit1 nl) g.nts.length)) (hN:IsN g.prods nl)
 (hq:∀ b H' fs,Le H H'->H b=none->kold H' 9 (some ⟨b,0,none⟩) g.nts.length=some (famC (rowK fs) g.nts.length)->InN g.nts.length fs 9->IsF g.prods fs->Q (.slice (some ⟨b,0,none⟩) g.nts.length g.nts.length) H'):Does (env Try.prog) 76 [gv g,.slice na g.nts.length nc] H Q:=by
 refine fn76 ok fun n1 h1 n2 h2=>?_
 have hl:=Le.new (e:=mkEnt [.slice g.ta g.toks.length g.tc,.slice g.na g.nts.length g.nc,.slice g.pa g.prods.length g.pc] 0) h1
 have r:ld (H.new n1 (mkEnt [.slice g.ta g.toks.length g.tc,.slice g.na g.nts.length g.nc,.slice g.pa g.prods.length g.pc] 0)) ⟨n1,0,none⟩ [.slice g.ta g.toks.length g.tc,.slice g.na g.nts.length g.nc,.slice g.pa g.prods.length g.pc]:=⟨rfl,_,if_pos rfl,mk_rd⟩
 have hl2:=Le.new (e:=mkEnt [.slice na g.nts.length nc] 0) h2
 have r2:ld ((H.new n1 (mkEnt [.slice g.ta g.toks.length g.tc,.slice g.na g.nts.length g.nc,.slice g.pa g.prods.length g.pc] 0)).new n2 (mkEnt [.slice na g.nts.length nc] 0)) ⟨n2,0,none⟩ [.slice na g.nts.length nc]:=⟨rfl,_,if_pos rfl,mk_rd⟩
 have hl3:=hl.trans hl2
 refine ⟨rfl,_,_,_,ldSub (m:=1) (hl2.ld r) 1 (by simp),c70 ok (caps:=[.pointer (some ⟨n1,0,none⟩),.pointer (some ⟨n2,0,none⟩)]) (c84 ok (hl2.ld r) r2 (hl3.kold hn) hN (hg.up hl3) hm) (fun i t q=>by cases q) (by have:=hm.n; omega) fun b H' X l hb hk hX hP hC=>⟨_,_,_,rfl,?_⟩⟩
 exact hq b H' X (hl3.trans l) (hl3.none hb) hk hX (isF_of hN hP hC)
theorem c62 {g:Gm} {H:KH} {Q:PQ} (hg:GI H g) (hm:MayG g)
 (hq:∀ b1 b2 H' nl fs,Le H H'->kold H' 1 (some ⟨b1,0,none⟩) g.nts.length=some (famC (bit1 nl) g.nts.length)->IsN g.prods nl->kold H' 9 (some ⟨b2,0,none⟩) g.nts.length=some (famC (rowK fs) g.nts.length)->InN g.nts.length fs 9->IsF g.prods fs->Q (.agg #[.int .i64 g.toks.length,.slice (some ⟨b1,0,none⟩) g.nts.length g.nts.length,.slice (some ⟨b2,0,none⟩) g.nts.length g.nts.length]) H'):Does (env Try.prog) 62 [gv g] H Q:=by
 refine fn62 ok (c75 ok hg hm fun b1 H2 nl l1 _ k1 hN=>⟨_,_,_,rfl,trivial,c76 ok (hg.up l1) hm k1 hN fun b2 H7 fs l2 _ k2 hI hF=>⟨_,_,_,rfl,⟨⟨rfl,rfl⟩,rfl,rfl,rfl,trivial⟩,trivial,?_⟩⟩)
 exact hq b1 b2 H7 nl fs (l1.trans l2) (l2.kold k1) hN k2 hI hF
end
end Va
end Go.Proofs.Ytibkijpnkmccpaa
namespace Go.Ew
open Go.Ev Go.Deep
def ClsAt (nl:Int->Bool) (fs X:Int->Int->Bool) (p:Pr) (i:Nat):Prop:=∀ m (h:m<p.right.length),m<i->p.right[m].tok=false->∀ t,((ofK nl fs (p.right.drop (m+1))).1 t||((ofK nl fs (p.right.drop (m+1))).2&&X p.left t))=true->X p.right[m].pos t=true
theorem ClsAt.all {nl:Int->Bool} {fs X:Int->Int->Bool} {p:Pr} (h:ClsAt nl fs X p p.right.length):ClsP nl fs X p:=fun u s v hr hs t ht=>by
 have hlt:u.length<p.right.length:=by rw [hr]; simp
 have e1:p.right[u.length]=s:=by simp [hr]
 have e2:p.right.drop (u.length+1)=v:=by rw [hr]; simp
 have:=h u.length hlt hlt (by rw [e1]; exact hs) t (by rw [e2]; exact ht)
 rw [e1] at this; exact this
theorem parts_at {l:List Sy} {i:Nat} (h:i<l.length):l=l.take i++l[i] :: l.drop (i+1):=by
 rw [<- List.drop_eq_getElem_cons h,List.take_append_drop]
structure Hd where
 a:OA
 c:Nat
def hdC (M:Nat) (l:List Hd):List Value:=l.flatMap fun x=>[.slice x.a M x.c]
theorem hdC_app (M:Nat) (l m:List Hd):hdC M (l++m)=hdC M l++hdC M m:=List.flatMap_append
structure RowsB (H:KH) (a:OA) (N M:Nat) (X:Int->Int->Bool):Prop where
 ex:∃ l:List Hd,l.length=N/\kold H 1 a N=some (hdC M l)/\∀ i (h:i<l.length),kold H 1 l[i].a M=some (famC (bit1 (X (i:Int))) M)
theorem cut9 (f:Int->Bool) {M:Nat} (h:M<=9):(kC f).take M=famC (bit1 f) M:=by
 match M,h with
 | 0,_=>rfl
 | 1,_=>rfl
 | 2,_=>rfl
 | 3,_=>rfl
 | 4,_=>rfl
 | 5,_=>rfl
 | 6,_=>rfl
 | 7,_=>rfl
 | 8,_=>rfl
 | 9,_=>rfl
 | n+10,h=>omega
theorem Bx9.cut {Z H:KH} {b:Nat} {f:Int->Bool} (w:Bx9 Z H b f) {M:Nat} (h:M<=9):kold H 1 (some ⟨b,0,none⟩) M=some (famC (bit1 f) M):=by
 obtain ⟨e,h1,h2,h3⟩:=w.ok () trivial
 refine kold_some.2 ⟨e,h1,?_⟩
 have:=rd_take h3 (m:=M) (by rw [kC_len]; exact h)
 rw [cut9 f h] at this
 rw [Nat.mul_one]
 exact this
def offB (a:OA) (H:KH):KH:=match blk a with
 | none=>H
 | some b=>H.del b
theorem offB_le (a:OA) (H:KH):Le (offB a H) H:=by
 unfold offB
 split
 .exact Le.refl H
 .exact del_le H _
theorem le_offB {Z H:KH} {a:OA} (h:Le Z H) (hn:∀ b,blk a=some b->Z b=none):Le Z (offB a H):=by
 unfold offB
 split
 .exact h
 .rename_i b e
  exact le_del h (hn b e)
theorem offB_none {a:OA} {H:KH} {b:Nat} (h:blk a=some b):offB a H b=none:=by
 unfold offB
 rw [h]
 exact if_pos rfl
theorem offB_kold {a a2:OA} {H:KH} {sz n:Nat} {cs:List Value} (h:kold H sz a2 n=some cs) (hn:∀ b,blk a2=some b->blk a≠some b):kold (offB a H) sz a2 n=some cs:=by
 cases a2 with
 | none=>exact h
 | some ad =>
   cases hs:ad.spot with
   | some s =>
     unfold Ew.kold at h ⊢
     simp only [hs] at h ⊢
     exact h
   | none =>
     obtain ⟨b,o,sp⟩:=ad
     simp only at hs
     subst hs
     obtain ⟨e,h1,h2⟩:=kold_some.1 h
     refine kold_some.2 ⟨e,?_,h2⟩
     have:blk a≠some b:=hn b rfl
     unfold offB
     cases hb:blk a with
     | none=>exact h1
     | some b'=>exact del_at h1 fun z=>this (by rw [hb,z])
end Go.Ew
namespace Go.Proofs.Ytibkijpnkmccpaa
open Go.Ev Go.Ew
namespace Va
section
variable (ok : EnvOk (env Try.prog))
include ok
theorem c74 {Z H:KH} {p b:Nat} {g:Gm} {na fa:OA} {nc fc:Nat} {nl:Int->Bool} {fs X0 X:Int->Int->Bool} {c:Bool} {j:Nat} {Q:PQ} (w:Gw Z H p b g.nts.length (rowK X) c) (hg:GI Z g) (hm:MayG g) (hn:kold Z 1 na g.nts.length=some (famC (bit1 nl) g.nts.length)) (hN:IsN g.prods nl) (hf:kold Z 9 fa g.nts.length=some (famC (rowK fs) g.nts.length)) (hI:InN g.nts.length fs 9) (hF:IsF g.prods fs) (hj:j<g.prods.length)
 (hX:InN g.nts.length X 9) (hS:SndL g.prods g.toks.length X) (hst:Stp X0 X c)
 (hq:∀ H' X' c',Gw Z H' p b g.nts.length (rowK X') c'->InN g.nts.length X' 9->SndL g.prods g.toks.length X'->Stp X0 X' c'->(c'=false->c=false/\ClsP nl fs X0 g.prods[j])->Q (.tuple #[]) H') :
 Does (env Try.prog) 74 [.agg #[.int .i64 g.prods[j].left,.slice g.prods[j].ra g.prods[j].right.length g.prods[j].rc,.slice g.prods[j].ua g.prods[j].un g.prods[j].uc],.agg #[.int .i64 g.toks.length,.slice na g.nts.length nc,.slice fa g.nts.length fc],.pointer (some ⟨p,0,none⟩)] H Q:=by
 generalize hx:g.prods[j]=x at *
 have hpo:=hm.pr j hj
 have hri:=hg.pi j hj
 have hsy:=SymsIn.of hm hj
 have hmem:x∈g.prods:=hx ▸ List.getElem_mem hj
 rw [hx] at hpo hri hsy
 refine fn74 ok ?_
 show vc74_L3 _ _ _ _ _ _ _ _ _ _ _ _ _ _ _ _ _ _
 unfold vc74_L3
 refine ⟨fun k n4 n5 x6 a7 n8 n9 a10 n11 n12 x13 a14 n15 n16 a17 n18 n19 a20 n21 n22 x23 x24 H25=>n4=p/\n5=0/\x6=x.left/\a7=x.ra/\n8=x.right.length/\n9=x.rc/\x13=g.toks.length/\a14=na/\n15=g.nts.length/\n16=nc/\a17=fa/\n18=g.nts.length/\n19=fc/\a20=x.ra/\n21=x.right.length/\x23=x.right.length/\∃ (i:Nat) (Y:Int->Int->Bool) (d:Bool),x24=i/\i<=x.right.length/\k=x.right.length-i/\Gw Z H25 p b g.nts.length (rowK Y) d/\InN g.nts.length Y 9/\SndL g.prods g.toks.length Y/\Stp X0 Y d/\(d=false->c=false/\ClsAt nl fs X0 x i),⟨x.right.length,rfl,rfl,rfl,rfl,rfl,rfl,rfl,rfl,rfl,rfl,rfl,rfl,rfl,rfl,rfl,rfl,rfl,0,X,c,rfl,by omega,rfl,w,hX,hS,hst,fun q=>⟨q,fun m _ y=>absurd y (by omega)⟩⟩,?_⟩
 rintro k n4 n5 x6 a7 n8 n9 a10 n11 n12 x13 a14 n15 n16 a17 n18 n19 a20 n21 n22 x23 x24 H25 ⟨rfl,rfl,rfl,rfl,rfl,rfl,rfl,rfl,rfl,rfl,rfl,rfl,rfl,rfl,rfl,rfl,i,Y,d,rfl,hi,rfl,w,hY,hS,hst,hc⟩
 refine ⟨fun z=>?_,fun z=>?_⟩
 .have z:i<x.right.length:=by have:=of_decide_eq_true z; omega
  have e0:Int.toNat ((i:Nat):Int)=i:=by omega
  have hi1:IntKind.wrap .i64 (((i:Nat):Int)+1)=((i+1:Nat):Int):=by have:=hpo.b; rw [wrap64 (by omega) (by omega)]; omega
  obtain ⟨b0,o0,ha,r0⟩:=sy_ld (w.le.kold hri.1) z
  obtain ⟨s0,s1,s2⟩:=hsy _ (List.getElem_mem z)
  rw [e0,hi1]
  refine ⟨⟨by omega,by omega⟩,b0,o0,ha,_,_,r0,fun y=>?_,fun y=>?_⟩
  .refine ⟨x.right.length-(i+1),by omega,rfl,rfl,rfl,rfl,rfl,rfl,rfl,rfl,rfl,rfl,rfl,rfl,rfl,rfl,rfl,rfl,rfl,i+1,Y,d,rfl,by omega,rfl,w,hY,hS,hst,fun q=>⟨(hc q).1,fun m hm' ym yt=>?_⟩⟩
   by_cases e:m=i
   .subst e; rw [y] at yt; cases yt
   .exact (hc q).2 m hm' (by omega) yt
  .have hp:=s2 y
   obtain ⟨a',c',k1,k2⟩:=(hri.2.up w.le).cut (i+1) (by omega)
   have hdl:x.right.length-(i+1)=(x.right.drop (i+1)).length:=by rw [List.length_drop]
   rw [hdl] at k2
   refine ⟨trivial,a',_,c',k1,?_⟩
   rw [hdl]
   have hin:In9 (ofK nl fs (x.right.drop (i+1))).1:=ofK_mem (B:=fun t=>0<=t/\t<9) (fun x t q=>(hI x t q).2) fun s hs q=>⟨(hsy s (List.mem_of_mem_drop hs)).1,by have:=(hsy s (List.mem_of_mem_drop hs)).2.1 q; have:=hm.t; omega⟩
   obtain ⟨v1,v2⟩:=ofK_sound (G:=g.prods) (fun x h=>(hN x).1 h) (fun x t h=>(hF x t).1 h) (x.right.drop (i+1))
   have fin:∀ (f:Int->Bool) (H5:KH),Le H25 H5->(∀ t,f t=((ofK nl fs (x.right.drop (i+1))).1 t||((ofK nl fs (x.right.drop (i+1))).2&&Y x.left t)))->Does (env Try.prog) 72 [.pointer (some ⟨n4,0,none⟩),.int .i64 x.right[i].pos,kV f] H5 fun v1 H2=>v1 = .tuple #[]/\∃ n3,n3<x.right.length-i/\(none:Option Nat)=none/\n4=n4/\(0:Nat)=0/\x.left=x.left/\x.ra=x.ra/\x.right.length=x.right.length/\x.rc=x.rc/\(g.toks.length:Int)=g.toks.length/\a14=a14/\g.nts.length=g.nts.length/\n16=n16/\a17=a17/\g.nts.length=g.nts.length/\n19=n19/\x.ra=x.ra/\x.right.length=x.right.length/\(x.right.length:Int)=x.right.length/\∃ (i':Nat) (Y:Int->Int->Bool) (d:Bool),((i+1:Nat):Int)=i'/\i'<=x.right.length/\n3=x.right.length-i'/\Gw Z H2 n4 b g.nts.length (rowK Y) d/\InN g.nts.length Y 9/\SndL g.prods g.toks.length Y/\Stp X0 Y d/\(d=false->c=false/\ClsAt nl fs X0 x i'):=by
    intro f H5 l5 hff
    have hf9:In9 f:=fun t q=>by
     rw [hff t,Bool.or_eq_true,Bool.and_eq_true] at q
     rcases q with q | ⟨_,q⟩
     .exact hin t q
     .exact (hY _ _ q).2
    refine c72 ok (Bxs.up w l5) s0 hp hf9 fun H' d' w' q1 q2=>⟨rfl,x.right.length-(i+1),by omega,rfl,rfl,rfl,rfl,rfl,rfl,rfl,rfl,rfl,rfl,rfl,rfl,rfl,rfl,rfl,rfl,rfl,i+1,_,d',rfl,by omega,rfl,w',up_in hY ⟨s0,hp⟩ hf9,fun i' t q=>?_,hst.add q1 q2,fun q=>?_⟩
    .simp only [Up,Bool.or_eq_true,Bool.and_eq_true,decide_eq_true_eq] at q
     rcases q with q | ⟨rfl,q⟩
     .exact hS i' t q
     .rw [hff t,Bool.or_eq_true,Bool.and_eq_true] at q
      rcases q with q | ⟨q,q'⟩
      .exact .fst x hmem _ _ _ t (parts_at z) y (v2 t q)
      .exact .nul x hmem _ _ _ t (parts_at z) y (v1 q) (hS _ _ q')
    .obtain ⟨q3,q4⟩:=q2 q
     obtain ⟨hc1,hc2⟩:=hc q3
     refine ⟨hc1,fun m hm' ym yt t ht=>?_⟩
     by_cases e:m=i
     .subst e
      rw [hst.no q3] at hff q4
      exact q4 t (by rw [hff t]; exact ht)
     .exact hc2 m hm' (by omega) yt t ht
   refine c63 ok (w.le.kold hn) (w.le.kold hf) k2 (hsy.drop (i+1)) hm.t.2 (by rw [List.length_drop]; have:=hpo.b; omega) fun H5 l5=>⟨_,_,_,_,_,_,_,_,_,_,rfl,trivial,⟨rfl,trivial⟩,fun y2=>?_,fun y2=>?_⟩
   .have w5:=Bxs.up w l5
    have w5:Gw Z H5 n4 b g.nts.length (rowK Y) d:=w5
    refine ⟨trivial,rfl,_,_,_,w5.ldS,hpo.a,b,0,rfl,_,_,_,_,_,_,_,_,_,w5.ldI (fun _=>rfl) hpo.a.1 hpo.a.2,c78 ok (f:=(ofK nl fs (x.right.drop (i+1))).1) (g:=Y x.left) fun H31 l31=>⟨_,_,_,_,_,_,_,_,_,rfl,trivial,trivial,?_⟩⟩
    unfold vc74_J0
    rw [hi1]
    exact fin _ H31 (l5.trans l31) fun t=>by rw [y2,Bool.true_and]
   .unfold vc74_J0
    rw [hi1]
    exact fin _ H5 l5 fun t=>by rw [y2,Bool.false_and,Bool.or_false]
 .have z:i=x.right.length:=by have:=of_decide_eq_false z; omega
  subst z
  exact hq H25 Y d w hY hS hst fun q=>⟨(hc q).1,(hc q).2.all⟩
end
end Va
end Go.Proofs.Ytibkijpnkmccpaa
namespace Go.Ew
open Go.Ev Go.Deep
def tiI:TI:=⟨1,8,false,5,0,0,[],[.int .i64 0]⟩
def offP (ls:List Int) (nt:Int) (i:Nat):List Int:=List.map (fun j:Nat=>(j:Int)) ((List.range i).filter fun j=>decide (ls[j]? = some nt))
def lefts (g:Gm):List Int:=g.prods.map Pr.left
def offG (g:Gm) (nt:Int):List Int:=offP (lefts g) nt g.prods.length
theorem offP_succ (ls:List Int) (nt:Int) (i:Nat):offP ls nt (i+1)=offP ls nt i++(if ls[i]? = some nt then [(i:Int)] else []):=by
 unfold offP
 rw [List.range_succ,List.filter_append,List.map_append]
 congr 1
 by_cases h:ls[i]? = some nt
 .rw [if_pos h]; simp [h]
 .rw [if_neg h]; simp [h]
theorem offP_len (ls:List Int) (nt:Int) (i:Nat):(offP ls nt i).length<=i:=by
 unfold offP
 rw [List.length_map]
 have:=List.length_filter_le (fun j=>decide (ls[j]? = some nt)) (List.range i)
 rwa [List.length_range] at this
theorem lefts_at {g:Gm} {i:Nat} (h:i<g.prods.length):(lefts g)[i]? = some g.prods[i].left:=by unfold lefts; simp [h]
def Ni (X H:KH) (a:OA) (c:Nat) (l:List Int):Prop:=Nr X H 1 a l.length c (inC l)
end Go.Ew
namespace Go.Proofs.Ytibkijpnkmccpaa
open Go.Ev Go.Ew
namespace Va
section
variable (ok : EnvOk (env Try.prog))
include ok
end
end Va
end Go.Proofs.Ytibkijpnkmccpaa
