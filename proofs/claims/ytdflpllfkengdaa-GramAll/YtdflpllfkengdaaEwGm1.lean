import Derived.Test.YtdflpllfkengdaaEwS4
import Derived.Test.YtdflpllfkengdaaEwVc1
set_option linter.unusedVariables false
set_option linter.unusedSimpArgs false
namespace Go.Ew
open Go.Ev Go.Deep
structure Sy where
 tok:Bool
 pos:Int
structure Tk where
 name:ByteArray
 rex:ByteArray
 skip:Bool
structure Nt where
 name:ByteArray
 ia:OA
 ic:Nat
 inh:List ByteArray
 sa:OA
 sc:Nat
 syn:List ByteArray
structure Pr where
 left:Int
 ra:OA
 rc:Nat
 right:List Sy
 ua:OA
 un:Nat
 uc:Nat
structure Gm where
 ta:OA
 tc:Nat
 toks:List Tk
 na:OA
 nc:Nat
 nts:List Nt
 pa:OA
 pc:Nat
 prods:List Pr
theorem sy_ext {x y:Sy} (h1:x.tok=y.tok) (h2:x.pos=y.pos):x=y:=by cases x; cases y; simp_all
theorem tk_ext {x y:Tk} (h1:x.name=y.name) (h2:x.rex=y.rex) (h3:x.skip=y.skip):x=y:=by cases x; cases y; simp_all
def syC (l:List Sy):List Value:=l.flatMap fun s=>[.bool s.tok,.int .i64 s.pos]
def tkC (l:List Tk):List Value:=l.flatMap fun t=>[.string t.name,.string t.rex,.bool t.skip]
def ntC (l:List Nt):List Value:=l.flatMap fun x=>[.string x.name,.slice x.ia x.inh.length x.ic,.slice x.sa x.syn.length x.sc]
def prC (l:List Pr):List Value:=l.flatMap fun x=>[.int .i64 x.left,.slice x.ra x.right.length x.rc,.slice x.ua x.un x.uc]
def gv (g:Gm):Value:=.agg #[.slice g.ta g.toks.length g.tc,.slice g.na g.nts.length g.nc,.slice g.pa g.prods.length g.pc]
section
variable {H : KH} {a : OA} {i : Nat}
theorem sy_ld {l:List Sy} (h:kold H 2 a l.length=some (syC l)) (hi:i<l.length):∃ b o,a=some ⟨b,o,none⟩/\ld H ⟨b,o+i*2,none⟩ [.bool l[i].tok,.int .i64 l[i].pos]:=it_ld (k:=2) (f:=fun (s:Sy)=>[.bool s.tok,.int .i64 s.pos]) (fun _=>rfl) h hi
theorem tk_ld {l:List Tk} (h:kold H 3 a l.length=some (tkC l)) (hi:i<l.length):∃ b o,a=some ⟨b,o,none⟩/\ld H ⟨b,o+i*3,none⟩ [.string l[i].name,.string l[i].rex,.bool l[i].skip]:=it_ld (k:=3) (f:=fun (t:Tk)=>[.string t.name,.string t.rex,.bool t.skip]) (fun _=>rfl) h hi
theorem nt_ld {l:List Nt} (h:kold H 3 a l.length=some (ntC l)) (hi:i<l.length):∃ b o,a=some ⟨b,o,none⟩/\ld H ⟨b,o+i*3,none⟩ [.string l[i].name,.slice l[i].ia l[i].inh.length l[i].ic,.slice l[i].sa l[i].syn.length l[i].sc]:=it_ld (k:=3) (f:=fun (x:Nt)=>[.string x.name,.slice x.ia x.inh.length x.ic,.slice x.sa x.syn.length x.sc]) (fun _=>rfl) h hi
theorem pr_ld {l:List Pr} (h:kold H 3 a l.length=some (prC l)) (hi:i<l.length):∃ b o,a=some ⟨b,o,none⟩/\ld H ⟨b,o+i*3,none⟩ [.int .i64 l[i].left,.slice l[i].ra l[i].right.length l[i].rc,.slice l[i].ua l[i].un l[i].uc]:=it_ld (k:=3) (f:=fun (x:Pr)=>[.int .i64 x.left,.slice x.ra x.right.length x.rc,.slice x.ua x.un x.uc]) (fun _=>rfl) h hi
end
def NtsI (H:KH) (l:List Nt):Prop:=∀ i (h:i<l.length),kold H 1 l[i].ia l[i].inh.length=some (sC l[i].inh)/\kold H 1 l[i].sa l[i].syn.length=some (sC l[i].syn)
def PrsI (H:KH) (l:List Pr):Prop:=∀ i (h:i<l.length),kold H 2 l[i].ra l[i].right.length=some (syC l[i].right)
theorem NtsI.up {H H':KH} {l:List Nt} (h:NtsI H l) (hl:Le H H'):NtsI H' l:=fun i hi=>⟨hl.kold (h i hi).1,hl.kold (h i hi).2⟩
theorem PrsI.up {H H':KH} {l:List Pr} (h:PrsI H l) (hl:Le H H'):PrsI H' l:=fun i hi=>hl.kold (h i hi)
structure GI (H:KH) (g:Gm):Prop where
 t:kold H 3 g.ta g.toks.length=some (tkC g.toks)
 n:kold H 3 g.na g.nts.length=some (ntC g.nts)
 p:kold H 3 g.pa g.prods.length=some (prC g.prods)
 ni:NtsI H g.nts
 pi:PrsI H g.prods
theorem GI.up {H H':KH} {g:Gm} (h:GI H g) (hl:Le H H'):GI H' g:=⟨hl.kold h.t,hl.kold h.n,hl.kold h.p,h.ni.up hl,h.pi.up hl⟩
structure Few (g:Gm):Prop where
 t:g.toks.length<=1000
 n:g.nts.length<=1000
 p:g.prods.length<=1000
 ts:∀ i (h:i<g.toks.length),g.toks[i].name.size<=140737488355328
 ns:∀ i (h:i<g.nts.length),g.nts[i].name.size<=140737488355328/\g.nts[i].inh.length<=1000/\g.nts[i].syn.length<=1000/\(∀ s∈g.nts[i].inh,s.size<=140737488355328)/\∀ s∈g.nts[i].syn,s.size<=140737488355328
 ps:∀ i (h:i<g.prods.length),g.prods[i].right.length<=1000
structure NameOk (s:ByteArray):Prop where
 a:1<=s.size
 b:s.size<=8
 c:∀ i,i<s.size->(97<=byteAt s i/\byteAt s i<=122)\/(0<i/\48<=byteAt s i/\byteAt s i<=57)
structure NamesOk (l:List ByteArray):Prop where
 a:∀ i (h:i<l.length),NameOk l[i]
 b:∀ i (h:i<l.length) j (h2:j<i),l[i]≠l[j]'(by omega)
structure SymOk (T:List Tk) (N:Nat) (s:Sy):Prop where
 a:0<=s.pos
 b:s.tok=true->∃ h:s.pos.toNat<T.length,T[s.pos.toNat].skip=false
 c:s.tok=false->s.pos<N
structure AttrsOk (x:Nt):Prop where
 a:x.inh.length+x.syn.length<=4
 b:NamesOk (x.inh++x.syn)
structure ProdOk (T:List Tk) (N:Nat) (p:Pr):Prop where
 a:0<=p.left/\p.left<N
 b:p.right.length<=5
 c:∀ i (h:i<p.right.length),SymOk T N p.right[i]
def namesG (g:Gm):List ByteArray:=g.toks.map Tk.name++g.nts.map Nt.name
structure MayG (g:Gm):Prop where
 t:1<=g.toks.length/\g.toks.length<=8
 n:1<=g.nts.length/\g.nts.length<=8
 p:1<=g.prods.length/\g.prods.length<=16
 nm:NamesOk (namesG g)
 at_:∀ i (h:i<g.nts.length),AttrsOk g.nts[i]
 pr:∀ i (h:i<g.prods.length),ProdOk g.toks g.nts.length g.prods[i]
def SameN (x y:Nt):Prop:=x.name=y.name/\x.inh=y.inh/\x.syn=y.syn
def SameP (x y:Pr):Prop:=x.left=y.left/\x.right=y.right
structure SameG (g h:Gm):Prop where
 t:g.toks=h.toks
 n:∃ e:g.nts.length=h.nts.length,∀ i (h1:i<g.nts.length),SameN g.nts[i] (h.nts[i]'(by omega))
 p:∃ e:g.prods.length=h.prods.length,∀ i (h1:i<g.prods.length),SameP g.prods[i] (h.prods[i]'(by omega))
end Go.Ew
namespace Go.Proofs.Ytdflpllfkengdaa
open Go.Ev Go.Ew
namespace Va
section
variable (ok : EnvOk (env Try.prog))
include ok
omit ok in
theorem c6 {H:KH} {Q:PQ} (hq:Q (.bool true) H):Does (env Try.prog) 6 [] H Q:=does_true (by kernel_rfl) (by kernel_rfl) (by kernel_rfl) hq
theorem c22 {v:Value} {H:KH} {Q:PQ} {g:Gm} (hq:Q (gv g) H):Does (env Try.prog) 22 [gv g] H Q:=fn22 ok hq
theorem c36 {a:OA} {n c:Nat} {x y:Int} {H:KH} {Q:PQ} (hq:∀ b,(b=true↔(x<=n/\n<=y))->Q (.bool b) H):Does (env Try.prog) 36 [.slice a n c,.int .i64 x,.int .i64 y] H Q :=
 fn36 ok ⟨fun h=>hq _ (by have:=of_decide_eq_true h; simp [this]),fun h=>hq _ (by have:=of_decide_eq_false h; simp [this])⟩
theorem c37 {a:OA} {n c:Nat} {x y:Int} {H:KH} {Q:PQ} (hq:∀ b,(b=true↔(x<=n/\n<=y))->Q (.bool b) H):Does (env Try.prog) 37 [.slice a n c,.int .i64 x,.int .i64 y] H Q :=
 fn37 ok ⟨fun h=>hq _ (by have:=of_decide_eq_true h; simp [this]),fun h=>hq _ (by have:=of_decide_eq_false h; simp [this])⟩
theorem c38 {a:OA} {n c:Nat} {x y:Int} {H:KH} {Q:PQ} (hq:∀ b,(b=true↔(x<=n/\n<=y))->Q (.bool b) H):Does (env Try.prog) 38 [.slice a n c,.int .i64 x,.int .i64 y] H Q :=
 fn38 ok ⟨fun h=>hq _ (by have:=of_decide_eq_true h; simp [this]),fun h=>hq _ (by have:=of_decide_eq_false h; simp [this])⟩
theorem c53 {a:OA} {n c:Nat} {x y:Int} {H:KH} {Q:PQ} (hq:∀ b,(b=true↔(x<=n/\n<=y))->Q (.bool b) H):Does (env Try.prog) 53 [.slice a n c,.int .i64 x,.int .i64 y] H Q :=
 fn53 ok ⟨fun h=>hq _ (by have:=of_decide_eq_true h; simp [this]),fun h=>hq _ (by have:=of_decide_eq_false h; simp [this])⟩
theorem c52 {a:OA} {n c:Nat} {x:Int} {H:KH} {Q:PQ} (hq:∀ b,(b=true↔(0<=x/\x<n))->Q (.bool b) H):Does (env Try.prog) 52 [.slice a n c,.int .i64 x] H Q :=
 fn52 ok ⟨fun h=>hq _ (by have:=of_decide_eq_true h; simp [this]),fun h=>hq _ (by have:=of_decide_eq_false h; simp [this])⟩
theorem c60 {a:OA} {n c:Nat} {x:Int} {H:KH} {Q:PQ} (hq:∀ b,(b=true↔(0<=x/\x<n))->Q (.bool b) H):Does (env Try.prog) 60 [.slice a n c,.int .i64 x] H Q :=
 fn60 ok ⟨fun h=>hq _ (by have:=of_decide_eq_true h; simp [this]),fun h=>hq _ (by have:=of_decide_eq_false h; simp [this])⟩
theorem c56 {x:Int} {H:KH} {Q:PQ} (hq:∀ b,(b=true↔(48<=x/\x<=57))->Q (.bool b) H):Does (env Try.prog) 56 [.int .u8 x] H Q :=
 fn56 ok ⟨fun h=>hq _ (by have:=of_decide_eq_true h; simp [this]),fun h=>hq _ (by have:=of_decide_eq_false h; simp [this])⟩
theorem c57 {x:Int} {H:KH} {Q:PQ} (hq:∀ b,(b=true↔(97<=x/\x<=122))->Q (.bool b) H):Does (env Try.prog) 57 [.int .u8 x] H Q :=
 fn57 ok ⟨fun h=>hq _ (by have:=of_decide_eq_true h; simp [this]),fun h=>hq _ (by have:=of_decide_eq_false h; simp [this])⟩
theorem c49 {s:ByteArray} {H:KH} {Q:PQ} (hq:∀ b,(b=true↔NameOk s)->Q (.bool b) H):Does (env Try.prog) 49 [.string s] H Q:=by
 refine fn49 ok ⟨fun h=>?_,fun h=>⟨fun h2=>?_,fun h2=>⟨⟨by omega,?_⟩,?_⟩⟩⟩
 .have:=of_decide_eq_true h
  exact hq false ⟨fun z=>(by cases z),fun z=>by have:=z.a; omega⟩
 .have:=of_decide_eq_true h2
  exact hq false ⟨fun z=>(by cases z),fun z=>by have:=z.b; omega⟩
 .have:=of_decide_eq_false h; omega
 have p1:1<=s.size:=by have:=of_decide_eq_false h; omega
 have p2:s.size<=8:=by have:=of_decide_eq_false h2; omega
 refine c56 ok fun b hb=>⟨b,rfl,fun z=>?_,fun z=>?_⟩
 .refine hq false ⟨fun z=>(by cases z),fun y=>?_⟩
  have:=y.c 0 (by omega)
  have w:=hb.1 z
  have e:Int.toNat 0=0:=rfl
  rw [e] at w
  omega
 .have w:¬ (48<=byteAt s 0/\byteAt s 0<=57):=fun y=>by
   have:=hb.2 y
   rw [z] at this; cases this
  unfold vc49_L1
  refine ⟨fun k s4 x5 x6 H7=>s4=s/\x5=s.size/\H7=H/\∃ i:Nat,x6=i/\i<=s.size/\k=s.size-i/\∀ j,j<i->(97<=byteAt s j/\byteAt s j<=122)\/(0<j/\48<=byteAt s j/\byteAt s j<=57),⟨_,rfl,rfl,rfl,0,rfl,by omega,rfl,fun j z=>absurd z (by omega)⟩,?_⟩
  rintro k s4 x5 x6 H7 ⟨rfl,rfl,rfl,i,rfl,hi,rfl,hv⟩
  refine ⟨fun hlt=>?_,fun hge=>?_⟩
  .have hlt:i<s4.size:=by have:=of_decide_eq_true hlt; omega
   have e0:Int.toNat ((i:Nat):Int)=i:=by omega
   have hi1:IntKind.wrap .i64 (((i:Nat):Int)+1)=((i+1:Nat):Int):=by rw [wrap64 (by omega) (by omega)]; omega
   rw [e0,hi1]
   refine ⟨⟨by omega,by omega⟩,c57 ok fun b1 h1=>⟨b1,rfl,fun z1=>⟨⟨by omega,by omega⟩,c56 ok fun b2 h2=>⟨b2,rfl,fun z2=>?_,fun z2=>?_⟩⟩,fun z1=>?_⟩⟩
   .refine hq false ⟨fun z=>(by cases z),fun y=>?_⟩
    cases b1
    .cases b2
     .rcases y.c i hlt with q | q
      .have:=h1.2 q; cases this
      .have:=h2.2 q.2; cases this
     .cases z2
    .cases z1
   .have b2t:b2=true:=by cases b2; cases z2; rfl
    refine ⟨s4.size-(i+1),by omega,rfl,rfl,rfl,i+1,rfl,by omega,rfl,fun j hj=>?_⟩
    by_cases e:j=i
    .subst e
     refine .inr ⟨?_,h2.1 b2t⟩
     rcases Nat.eq_zero_or_pos j with q | q
     .subst q; exact absurd (h2.1 b2t) w
     .exact q
    .exact hv j (by omega)
   .have b1t:b1=true:=by cases b1; cases z1; rfl
    refine ⟨s4.size-(i+1),by omega,rfl,rfl,rfl,i+1,rfl,by omega,rfl,fun j hj=>?_⟩
    by_cases e:j=i
    .subst e; exact .inl (h1.1 b1t)
    .exact hv j (by omega)
  .have hge:i=s4.size:=by have:=of_decide_eq_false hge; omega
   subst hge
   exact hq true ⟨fun _=>⟨p1,p2,hv⟩,fun _=>rfl⟩
theorem c45 {s:ByteArray} {H:KH} {Q:PQ} (hs:s.size<=140737488355328) (hq:∀ b,(b=true↔NameOk s)->Q (.bool b) H):Does (env Try.prog) 45 [.string s] H Q:=by
 refine fn45 ok ?_
 show vc45_L1 _ _ _
 unfold vc45_L1
 refine ⟨fun k s4 x5 H6=>s4=s/\H6=H/\∃ i:Nat,x5=i/\i<=s.size/\k=s.size-i/\∀ j,j<i->(97<=byteAt s j/\byteAt s j<=122)\/(0<j/\48<=byteAt s j/\byteAt s j<=57),⟨_,rfl,rfl,0,rfl,by omega,rfl,fun j z=>absurd z (by omega)⟩,?_⟩
 rintro k s4 x5 H6 ⟨rfl,rfl,i,rfl,hi,rfl,hv⟩
 refine ⟨fun hlt=>?_,fun hge=>?_⟩
 .have hlt:i<s4.size:=by have:=of_decide_eq_true hlt; omega
  have e0:Int.toNat ((i:Nat):Int)=i:=by omega
  have hi1:IntKind.wrap .i64 (((i:Nat):Int)+1)=((i+1:Nat):Int):=by rw [wrap64 (by omega) (by omega)]; omega
  have go:((97<=byteAt s4 i/\byteAt s4 i<=122)\/(0<i/\48<=byteAt s4 i/\byteAt s4 i<=57))->∀ j,j<i+1->(97<=byteAt s4 j/\byteAt s4 j<=122)\/(0<j/\48<=byteAt s4 j/\byteAt s4 j<=57):=fun h j hj=>by
   by_cases e:j=i
   .subst e; exact h
   .exact hv j (by omega)
  have no:¬ ((97<=byteAt s4 i/\byteAt s4 i<=122)\/(0<i/\48<=byteAt s4 i/\byteAt s4 i<=57))->Q (.bool false) H6:=fun h=>hq false ⟨fun z=>(by cases z),fun z=>absurd (z.c i hlt) h⟩
  rw [e0,hi1]
  refine ⟨⟨by omega,by omega⟩,fun z1=>⟨⟨by omega,by omega⟩,fun z2=>⟨fun z3=>?_,fun z3=>⟨⟨by omega,by omega⟩,fun z4=>?_,fun z4=>⟨⟨by omega,by omega⟩,fun z5=>?_,fun z5=>?_⟩⟩⟩,fun z2=>?_⟩,fun z1=>⟨fun _=>⟨fun z3=>?_,fun z3=>⟨⟨by omega,by omega⟩,fun z4=>?_,fun z4=>⟨⟨by omega,by omega⟩,fun z5=>?_,fun z5=>?_⟩⟩⟩,fun z2=>(by cases z2)⟩⟩
  all_goals simp only [Bool.not_eq_true',Bool.not_eq_false',decide_eq_true_eq,decide_eq_false_iff_not] at *
  all_goals first
   | (refine no ?_; omega)
   | exact ⟨s4.size-(i+1),by omega,trivial,trivial,i+1,rfl,by omega,rfl,go (by omega)⟩
 .have hge:i=s4.size:=by have:=of_decide_eq_false hge; omega
  subst hge
  refine ⟨fun z=>hq _ ?_,fun z=>hq _ ?_⟩
  .have:=of_decide_eq_true z
   rw [decide_eq_true_eq]
   exact ⟨fun y=>⟨by omega,by omega,hv⟩,fun y=>by have:=y.b; omega⟩
  .have:=of_decide_eq_false z
   exact ⟨fun y=>(by cases y),fun y=>by have:=y.a; omega⟩
theorem c46 {a a':OA} {c c':Nat} {l m:List ByteArray} {H:KH} {Q:PQ} (hl:kold H 1 a l.length=some (sC l)) (hm:kold H 1 a' m.length=some (sC m)) (hs:l.length<=1000000000) (hq:∀ b,(b=true↔l=m)->Q (.bool b) H):Does (env Try.prog) 46 [.slice a l.length c,.slice a' m.length c'] H Q:=by
 refine fn46 ok ⟨fun h=>?_,fun h=>?_⟩
 .have h:=of_decide_eq_true h
  exact hq false ⟨fun z=>(by cases z),fun z=>absurd (by rw [z]) h⟩
 have h:l.length=m.length:=by have:=of_decide_eq_false h; omega
 unfold vc46_L1
 refine ⟨fun k a4 n5 n6 a7 n8 n9 x10 x11 H12=>a4=a/\n5=l.length/\a7=a'/\n8=m.length/\(x10:Int)=l.length/\H12=H/\∃ i:Nat,x11=i/\i<=l.length/\k=l.length-i/\∀ j (hj:j<l.length),j<i->l[j]=m[j]'(by omega),⟨_,rfl,rfl,rfl,rfl,rfl,rfl,0,rfl,by omega,rfl,fun j _ z=>absurd z (by omega)⟩,?_⟩
 rintro k a4 n5 n6 a7 n8 n9 x10 x11 H12 ⟨rfl,rfl,rfl,rfl,rfl,rfl,i,rfl,hi,rfl,hv⟩
 refine ⟨fun hlt=>?_,fun hge=>?_⟩
 .have hlt:i<l.length:=by have:=of_decide_eq_true hlt; omega
  have e0:Int.toNat ((i:Nat):Int)=i:=by omega
  have hi1:IntKind.wrap .i64 (((i:Nat):Int)+1)=((i+1:Nat):Int):=by rw [wrap64 (by omega) (by omega)]; omega
  obtain ⟨b0,o0,ha,r0⟩:=s_ld hl hlt
  obtain ⟨b1,o1,ha1,r1⟩:=s_ld hm (i:=i) (by omega)
  rw [e0,hi1]
  refine ⟨trivial,⟨by omega,by omega⟩,b0,o0,ha,_,r0,⟨by omega,by omega⟩,b1,o1,ha1,_,r1,fun hc=>?_,fun hc=>?_⟩
  .refine hq false ⟨fun z=>(by cases z),fun z=>?_⟩
   subst z
   simp [strEq_iff.2 rfl] at hc
  .have hc:l[i]=m[i]'(by omega):=by
    cases hz:strEq l[i] (m[i]'(by omega)) with
    | true=>exact strEq_iff.1 hz
    | false=>rw [hz] at hc; cases hc
   refine ⟨l.length-(i+1),by omega,rfl,rfl,rfl,rfl,rfl,rfl,i+1,rfl,by omega,rfl,fun j hj z=>?_⟩
   by_cases y:j=i
   .subst y; exact hc
   .exact hv j hj (by omega)
 .have hge:i=l.length:=by have:=of_decide_eq_false hge; omega
  subst hge
  exact hq true ⟨fun _=>List.ext_getElem h fun j h1 h2=>hv j h1 h1,fun _=>rfl⟩
theorem c30 {a a':OA} {c c':Nat} {l m:List ByteArray} {H:KH} {Q:PQ} (hl:kold H 1 a l.length=some (sC l)) (hm:kold H 1 a' m.length=some (sC m)) (hs:l.length<=1000000000) (hq:∀ b,(b=true↔l=m)->Q (.bool b) H):Does (env Try.prog) 30 [.slice a l.length c,.slice a' m.length c'] H Q:=by
 refine fn30 ok ⟨fun h=>?_,fun h=>?_⟩
 .have h:=of_decide_eq_true h
  exact hq false ⟨fun z=>(by cases z),fun z=>absurd (by rw [z]) h⟩
 have h:l.length=m.length:=by have:=of_decide_eq_false h; omega
 unfold vc30_L1
 refine ⟨fun k a4 n5 n6 a7 n8 n9 x10 H11=>a4=a/\n5=l.length/\a7=a'/\n8=m.length/\H11=H/\∃ i:Nat,x10=i/\i<=l.length/\k=l.length-i/\∀ j (hj:j<l.length),j<i->l[j]=m[j]'(by omega),⟨_,rfl,rfl,rfl,rfl,rfl,0,rfl,by omega,rfl,fun j _ z=>absurd z (by omega)⟩,?_⟩
 rintro k a4 n5 n6 a7 n8 n9 x10 H11 ⟨rfl,rfl,rfl,rfl,rfl,i,rfl,hi,rfl,hv⟩
 refine ⟨fun hlt=>?_,fun hge=>?_⟩
 .have hlt:i<l.length:=by have:=of_decide_eq_true hlt; omega
  have e0:Int.toNat ((i:Nat):Int)=i:=by omega
  have hi1:IntKind.wrap .i64 (((i:Nat):Int)+1)=((i+1:Nat):Int):=by rw [wrap64 (by omega) (by omega)]; omega
  obtain ⟨b0,o0,ha,r0⟩:=s_ld hl hlt
  obtain ⟨b1,o1,ha1,r1⟩:=s_ld hm (i:=i) (by omega)
  rw [e0,hi1]
  refine ⟨trivial,⟨by omega,by omega⟩,b0,o0,ha,_,r0,⟨by omega,by omega⟩,b1,o1,ha1,_,r1,fun hc=>?_,fun hc=>?_⟩
  .refine hq false ⟨fun z=>(by cases z),fun z=>?_⟩
   subst z
   simp [strEq_iff.2 rfl] at hc
  .have hc:l[i]=m[i]'(by omega):=by
    cases hz:strEq l[i] (m[i]'(by omega)) with
    | true=>exact strEq_iff.1 hz
    | false=>rw [hz] at hc; cases hc
   refine ⟨l.length-(i+1),by omega,rfl,rfl,rfl,rfl,rfl,i+1,rfl,by omega,rfl,fun j hj z=>?_⟩
   by_cases y:j=i
   .subst y; exact hc
   .exact hv j hj (by omega)
 .have hge:i=l.length:=by have:=of_decide_eq_false hge; omega
  subst hge
  exact hq true ⟨fun _=>List.ext_getElem h fun j h1 h2=>hv j h1 h1,fun _=>rfl⟩
theorem c47 {a a':OA} {c c':Nat} {l m:List Sy} {H:KH} {Q:PQ} (hl:kold H 2 a l.length=some (syC l)) (hm:kold H 2 a' m.length=some (syC m)) (hs:l.length<=1000000000) (hq:∀ b,(b=true↔l=m)->Q (.bool b) H):Does (env Try.prog) 47 [.slice a l.length c,.slice a' m.length c'] H Q:=by
 refine fn47 ok ⟨fun h=>?_,fun h=>?_⟩
 .have h:=of_decide_eq_true h
  exact hq false ⟨fun z=>(by cases z),fun z=>absurd (by rw [z]) h⟩
 have h:l.length=m.length:=by have:=of_decide_eq_false h; omega
 unfold vc47_L1
 refine ⟨fun k a4 n5 n6 a7 n8 n9 x10 x11 H12=>a4=a/\n5=l.length/\a7=a'/\n8=m.length/\(x10:Int)=l.length/\H12=H/\∃ i:Nat,x11=i/\i<=l.length/\k=l.length-i/\∀ j (hj:j<l.length),j<i->l[j]=m[j]'(by omega),⟨_,rfl,rfl,rfl,rfl,rfl,rfl,0,rfl,by omega,rfl,fun j _ z=>absurd z (by omega)⟩,?_⟩
 rintro k a4 n5 n6 a7 n8 n9 x10 x11 H12 ⟨rfl,rfl,rfl,rfl,rfl,rfl,i,rfl,hi,rfl,hv⟩
 refine ⟨fun hlt=>?_,fun hge=>?_⟩
 .have hlt:i<l.length:=by have:=of_decide_eq_true hlt; omega
  have e0:Int.toNat ((i:Nat):Int)=i:=by omega
  have hi1:IntKind.wrap .i64 (((i:Nat):Int)+1)=((i+1:Nat):Int):=by rw [wrap64 (by omega) (by omega)]; omega
  obtain ⟨b0,o0,ha,r0⟩:=sy_ld hl hlt
  obtain ⟨b1,o1,ha1,r1⟩:=sy_ld hm (i:=i) (by omega)
  rw [e0,hi1]
  refine ⟨trivial,⟨by omega,by omega⟩,b0,o0,ha,_,_,r0,⟨by omega,by omega⟩,b1,o1,ha1,_,_,r1,fun hc=>?_,fun hc=>?_⟩
  .refine hq false ⟨fun z=>(by cases z),fun z=>?_⟩
   subst z
   simp at hc
  .have hc:l[i]=m[i]'(by omega):=by
    simp only [Bool.not_eq_false',Bool.and_eq_true,beq_iff_eq,decide_eq_true_eq] at hc
    exact sy_ext hc.1 hc.2.1
   refine ⟨l.length-(i+1),by omega,rfl,rfl,rfl,rfl,rfl,rfl,i+1,rfl,by omega,rfl,fun j hj z=>?_⟩
   by_cases y:j=i
   .subst y; exact hc
   .exact hv j hj (by omega)
 .have hge:i=l.length:=by have:=of_decide_eq_false hge; omega
  subst hge
  exact hq true ⟨fun _=>List.ext_getElem h fun j h1 h2=>hv j h1 h1,fun _=>rfl⟩
theorem c31 {a a':OA} {c c':Nat} {l m:List Sy} {H:KH} {Q:PQ} (hl:kold H 2 a l.length=some (syC l)) (hm:kold H 2 a' m.length=some (syC m)) (hs:l.length<=1000000000) (hq:∀ b,(b=true↔l=m)->Q (.bool b) H):Does (env Try.prog) 31 [.slice a l.length c,.slice a' m.length c'] H Q:=by
 refine fn31 ok ⟨fun h=>?_,fun h=>?_⟩
 .have h:=of_decide_eq_true h
  exact hq false ⟨fun z=>(by cases z),fun z=>absurd (by rw [z]) h⟩
 have h:l.length=m.length:=by have:=of_decide_eq_false h; omega
 unfold vc31_L1
 refine ⟨fun k a4 n5 n6 a7 n8 n9 x10 H11=>a4=a/\n5=l.length/\a7=a'/\n8=m.length/\H11=H/\∃ i:Nat,x10=i/\i<=l.length/\k=l.length-i/\∀ j (hj:j<l.length),j<i->l[j]=m[j]'(by omega),⟨_,rfl,rfl,rfl,rfl,rfl,0,rfl,by omega,rfl,fun j _ z=>absurd z (by omega)⟩,?_⟩
 rintro k a4 n5 n6 a7 n8 n9 x10 H11 ⟨rfl,rfl,rfl,rfl,rfl,i,rfl,hi,rfl,hv⟩
 refine ⟨fun hlt=>?_,fun hge=>?_⟩
 .have hlt:i<l.length:=by have:=of_decide_eq_true hlt; omega
  have e0:Int.toNat ((i:Nat):Int)=i:=by omega
  have hi1:IntKind.wrap .i64 (((i:Nat):Int)+1)=((i+1:Nat):Int):=by rw [wrap64 (by omega) (by omega)]; omega
  obtain ⟨b0,o0,ha,r0⟩:=sy_ld hl hlt
  obtain ⟨b1,o1,ha1,r1⟩:=sy_ld hm (i:=i) (by omega)
  rw [e0,hi1]
  refine ⟨trivial,⟨by omega,by omega⟩,b0,o0,ha,_,_,r0,⟨by omega,by omega⟩,b1,o1,ha1,_,_,r1,fun hc=>?_,fun hc=>?_⟩
  .refine hq false ⟨fun z=>(by cases z),fun z=>?_⟩
   subst z
   simp at hc
  .have hc:l[i]=m[i]'(by omega):=by
    simp only [Bool.not_eq_false',Bool.and_eq_true,beq_iff_eq,decide_eq_true_eq] at hc
    exact sy_ext hc.1 hc.2.1
   refine ⟨l.length-(i+1),by omega,rfl,rfl,rfl,rfl,rfl,i+1,rfl,by omega,rfl,fun j hj z=>?_⟩
   by_cases y:j=i
   .subst y; exact hc
   .exact hv j hj (by omega)
 .have hge:i=l.length:=by have:=of_decide_eq_false hge; omega
  subst hge
  exact hq true ⟨fun _=>List.ext_getElem h fun j h1 h2=>hv j h1 h1,fun _=>rfl⟩
theorem c25 {a a':OA} {c c':Nat} {l m:List Tk} {H:KH} {Q:PQ} (hl:kold H 3 a l.length=some (tkC l)) (hm:kold H 3 a' m.length=some (tkC m)) (hs:l.length<=1000000000) (hq:∀ b,(b=true↔l=m)->Q (.bool b) H):Does (env Try.prog) 25 [.slice a l.length c,.slice a' m.length c'] H Q:=by
 refine fn25 ok ⟨fun h=>?_,fun h=>?_⟩
 .have h:=of_decide_eq_true h
  exact hq false ⟨fun z=>(by cases z),fun z=>absurd (by rw [z]) h⟩
 have h:l.length=m.length:=by have:=of_decide_eq_false h; omega
 unfold vc25_L1
 refine ⟨fun k a4 n5 n6 a7 n8 n9 x10 x11 H12=>a4=a/\n5=l.length/\a7=a'/\n8=m.length/\(x10:Int)=l.length/\H12=H/\∃ i:Nat,x11=i/\i<=l.length/\k=l.length-i/\∀ j (hj:j<l.length),j<i->l[j]=m[j]'(by omega),⟨_,rfl,rfl,rfl,rfl,rfl,rfl,0,rfl,by omega,rfl,fun j _ z=>absurd z (by omega)⟩,?_⟩
 rintro k a4 n5 n6 a7 n8 n9 x10 x11 H12 ⟨rfl,rfl,rfl,rfl,rfl,rfl,i,rfl,hi,rfl,hv⟩
 refine ⟨fun hlt=>?_,fun hge=>?_⟩
 .have hlt:i<l.length:=by have:=of_decide_eq_true hlt; omega
  have e0:Int.toNat ((i:Nat):Int)=i:=by omega
  have hi1:IntKind.wrap .i64 (((i:Nat):Int)+1)=((i+1:Nat):Int):=by rw [wrap64 (by omega) (by omega)]; omega
  obtain ⟨b0,o0,ha,r0⟩:=tk_ld hl hlt
  obtain ⟨b1,o1,ha1,r1⟩:=tk_ld hm (i:=i) (by omega)
  rw [e0,hi1]
  refine ⟨trivial,⟨by omega,by omega⟩,b0,o0,ha,_,_,_,r0,⟨by omega,by omega⟩,b1,o1,ha1,_,_,_,r1,fun hc=>?_,fun hc=>?_⟩
  .refine hq false ⟨fun z=>(by cases z),fun z=>?_⟩
   subst z
   simp [strEq_iff.2 rfl] at hc
  .have hc:l[i]=m[i]'(by omega):=by
    simp only [Bool.not_eq_false',Bool.and_eq_true,beq_iff_eq,strEq_iff] at hc
    exact tk_ext hc.1 hc.2.1 hc.2.2.1
   refine ⟨l.length-(i+1),by omega,rfl,rfl,rfl,rfl,rfl,rfl,i+1,rfl,by omega,rfl,fun j hj z=>?_⟩
   by_cases y:j=i
   .subst y; exact hc
   .exact hv j hj (by omega)
 .have hge:i=l.length:=by have:=of_decide_eq_false hge; omega
  subst hge
  exact hq true ⟨fun _=>List.ext_getElem h fun j h1 h2=>hv j h1 h1,fun _=>rfl⟩
end
end Va
end Go.Proofs.Ytdflpllfkengdaa
namespace Go.Ew
open Go.Ev Go.Deep
theorem lrepLen {α:Type} (z:List α):∀ n,(lrep z n).length=n*z.length
 | 0=>by simp [lrep]
 | n+1=>by simp [lrep,lrepLen z n,Nat.add_mul]; omega
def tiS:TI:=⟨1,16,false,4,0,0,[],[.string ⟨#[]⟩]⟩
def ntV (x:Nt):Value:=.agg #[.string x.name,.slice x.ia x.inh.length x.ic,.slice x.sa x.syn.length x.sc]
def prV (x:Pr):Value:=.agg #[.int .i64 x.left,.slice x.ra x.right.length x.rc,.slice x.ua x.un x.uc]
def syV (s:Sy):Value:=.agg #[.bool s.tok,.int .i64 s.pos]
structure Nr (X H:KH) (sz:Nat) (a:OA) (n c:Nat) (cs:List Value):Prop where
 le:Le X H
 g:Gs H sz a n c cs
 fr:∀ k,blk a=some k->X k=none
theorem Nr.nil {X H:KH} {sz:Nat} (h:Le X H):Nr X H sz none 0 0 []:=⟨h,.nil,fun k z=>(by cases z)⟩
theorem Nr.up {X H H':KH} {sz n c:Nat} {a:OA} {cs:List Value} (h:Nr X H sz a n c cs) (hl:Le H H'):Nr X H' sz a n c cs:=⟨h.le.trans hl,h.g.agree fun k e _ q=>hl k e q,h.fr⟩
theorem Nr.from_ {X Y H:KH} {sz n c:Nat} {a:OA} {cs:List Value} (h:Nr Y H sz a n c cs) (hl:Le X Y):Nr X H sz a n c cs:=⟨hl.trans h.le,h.g,fun k z=>hl.none (h.fr k z)⟩
theorem Nr.row {X H:KH} {sz n c:Nat} {a:OA} {cs:List Value} (h:Nr X H sz a n c cs):kold H sz a n=some cs:=h.g.row
theorem Nr.app {X H:KH} {ti:TI} {n c nm m:Nat} {a:OA} {cs new:List Value} (h:Nr X H ti.size a n c cs) (hn:H nm=none) (hm:new.length=m*ti.size) (hs:n+m<=1000000) (hb:ti.bytes<=1000000) (hz:1<=ti.size) (hro:ti.size<=1000000:=by decide) :
 ∃ a' c' H',kappend H nm ti a n c m new=some (.slice a' (n+m) c',H')/\Nr X H' ti.size a' (n+m) c' (cs++new)/\(∀ k e,H k=some e->blk a≠some k->H' k=some e):=by
 obtain ⟨a',c',H',f1,f2,f3,f4⟩:=h.g.appends (ti:=ti) (nm:=nm) (m:=m) (new:=new) hn hm hs hb hz hro
 refine ⟨a',c',H',f1,⟨fun k e q=>f3 k e (h.le k e q) (fun z=>by rw [h.fr k z] at q; cases q),f2,fun k z=>?_⟩,f3⟩
 rcases f4 k z with w | w
 .exact h.fr k w
 .rw [w]; exact h.le.none hn
end Go.Ew
namespace Go.Proofs.Ytdflpllfkengdaa
open Go.Ev Go.Ew
namespace Va
section
variable (ok : EnvOk (env Try.prog))
include ok
theorem c61 {a:OA} {c:Nat} {l:List ByteArray} {s:ByteArray} {H:KH} {Q:PQ} (hl:kold H 1 a l.length=some (sC l)) (hs:l.length<=1000000) (hq:∀ x:Int,(0<=x↔s∈l)->Q (.int .i64 x) H):Does (env Try.prog) 61 [.slice a l.length c,.string s] H Q:=by
 refine fn61 ok ?_
 show vc61_L1 _ _ _ _ _ _
 unfold vc61_L1
 refine ⟨fun k a4 n5 n6 s7 x8 x9 H10=>a4=a/\n5=l.length/\s7=s/\x8=l.length/\H10=H/\∃ i:Nat,x9=i/\i<=l.length/\k=l.length-i/\∀ j (hj:j<l.length),j<i->l[j]≠s,⟨_,rfl,rfl,rfl,rfl,rfl,0,rfl,by omega,rfl,fun j _ z=>absurd z (by omega)⟩,?_⟩
 rintro k a4 n5 n6 s7 x8 x9 H10 ⟨rfl,rfl,rfl,rfl,rfl,i,rfl,hi,rfl,hv⟩
 refine ⟨fun hlt=>?_,fun hge=>?_⟩
 .have hlt:i<l.length:=by have:=of_decide_eq_true hlt; omega
  have e0:Int.toNat ((i:Nat):Int)=i:=by omega
  have hi1:IntKind.wrap .i64 (((i:Nat):Int)+1)=((i+1:Nat):Int):=by rw [wrap64 (by omega) (by omega)]; omega
  obtain ⟨b0,o0,ha,r0⟩:=s_ld hl hlt
  rw [e0,hi1]
  refine ⟨⟨by omega,by omega⟩,b0,o0,ha,_,r0,fun hc=>?_,fun hc=>?_⟩
  .have:=strEq_iff.1 hc
   exact hq _ ⟨fun _=>by rw [this]; exact List.getElem_mem _,fun _=>by omega⟩
  .refine ⟨l.length-(i+1),by omega,rfl,rfl,rfl,rfl,rfl,i+1,rfl,by omega,rfl,fun j hj z=>?_⟩
   by_cases y:j=i
   .subst y
    intro w
    rw [w,strEq_iff.2 rfl] at hc; cases hc
   .exact hv j hj (by omega)
 .have hge:i=l.length:=by have:=of_decide_eq_false hge; omega
  subst hge
  refine hq _ ⟨fun z=>by omega,fun z=>?_⟩
  obtain ⟨j,hj,w⟩:=List.mem_iff_getElem.1 z
  exact absurd w (hv j hj hj)
theorem c58 {a:OA} {c:Nat} {l:List ByteArray} {s:ByteArray} {H:KH} {Q:PQ} (hl:kold H 1 a l.length=some (sC l)) (hs:l.length<=1000000) (hq:∀ b,(b=true↔s∈l)->Q (.bool b) H):Does (env Try.prog) 58 [.slice a l.length c,.string s] H Q :=
 fn58 ok (c61 ok hl hs fun x hx=>⟨x,rfl,hq _ (by rw [decide_eq_true_eq]; exact hx)⟩)
theorem c50 {a:OA} {c:Nat} {l:List ByteArray} {H:KH} {Q:PQ} (ho:SlOk H 1 a l.length c) (hl:kold H 1 a l.length=some (sC l)) (hs:l.length<=1000000) (hq:∀ b,(b=true↔∀ i (h:i<l.length) j (h2:j<i),l[i]≠l[j]'(by omega))->Q (.bool b) H):Does (env Try.prog) 50 [.slice a l.length c] H Q:=by
 refine fn50 ok ?_
 show vc50_L1 _ _ _ _ _
 unfold vc50_L1
 refine ⟨fun k a4 n5 n6 a7 n8 n9 x10 x11 H12=>a4=a/\n5=l.length/\n6=c/\a7=a/\n8=l.length/\x10=l.length/\H12=H/\∃ i:Nat,x11=i/\i<=l.length/\k=l.length-i/\∀ i' (h:i'<l.length) j (h2:j<i'),i'<i->l[i']≠l[j]'(by omega),⟨_,rfl,rfl,rfl,rfl,rfl,rfl,rfl,0,rfl,by omega,rfl,fun _ _ _ _ z=>absurd z (by omega)⟩,?_⟩
 rintro k a4 n5 n6 a7 n8 n9 x10 x11 H12 ⟨rfl,rfl,rfl,rfl,rfl,rfl,rfl,i,rfl,hi,rfl,hv⟩
 refine ⟨fun hlt=>?_,fun hge=>?_⟩
 .have hlt:i<l.length:=by have:=of_decide_eq_true hlt; omega
  have e0:Int.toNat ((i:Nat):Int)=i:=by omega
  have hi1:IntKind.wrap .i64 (((i:Nat):Int)+1)=((i+1:Nat):Int):=by rw [wrap64 (by omega) (by omega)]; omega
  obtain ⟨b0,o0,ha,r0⟩:=s_ld hl hlt
  obtain ⟨a',c',k1,k2⟩:=cut_lo (k:=i) ho hl (by omega)
  have e2:(l.take i).length=i:=by rw [List.length_take]; omega
  have k2:kold H12 1 a' (l.take i).length=some (sC (l.take i)):=by
   rw [e2,k2]; unfold sC; rw [(fm_cut (k:=1) (fun _=>rfl) l i).2]
  rw [e0,hi1]
  refine ⟨⟨by omega,by omega⟩,b0,o0,ha,_,r0,a',i,c',k1,?_⟩
  have hc58:=fun Q'=>c58 ok (c:=c') (s:=l[i]) (Q:=Q') k2 (by omega)
  rw [e2] at hc58
  refine hc58 _ fun b hb=>⟨b,rfl,fun z=>?_,fun z=>?_⟩
  .refine hq false ⟨fun y=>(by cases y),fun y=>?_⟩
   obtain ⟨j,hj,w⟩:=List.mem_iff_getElem.1 (hb.1 z)
   rw [List.getElem_take] at w
   exact absurd w.symm (y i hlt j (by omega))
  .refine ⟨l.length-(i+1),by omega,rfl,rfl,rfl,rfl,rfl,rfl,rfl,i+1,rfl,by omega,rfl,fun i' h1 j h2 h3 w=>?_⟩
   by_cases y:i'=i
   .subst y
    have:b=true:=hb.2 (List.mem_iff_getElem.2 ⟨j,by omega,by rw [List.getElem_take]; exact w.symm⟩)
    rw [z] at this; cases this
   .exact hv i' h1 j h2 (by omega) w
 .have hge:i=l.length:=by have:=of_decide_eq_false hge; omega
  subst hge
  exact hq true ⟨fun _ i' h1 j h2=>hv i' h1 j h2 h1,fun _=>rfl⟩
theorem c48 {a:OA} {c:Nat} {l:List ByteArray} {H:KH} {Q:PQ} (hl:kold H 1 a l.length=some (sC l)) (hs:l.length<=1000000) (hq:∀ b,(b=true↔∀ i (h:i<l.length),NameOk l[i])->Q (.bool b) H):Does (env Try.prog) 48 [.slice a l.length c,.func (.func 49) #[] #[]] H Q:=by
 refine fn48 ok ?_
 show vc48_L1 _ _ _ _ _ _
 unfold vc48_L1
 refine ⟨fun k n4 l5 a6 n7 n8 x9 x10 H11=>n4=49/\l5=[]/\a6=a/\n7=l.length/\x9=l.length/\H11=H/\∃ i:Nat,x10=i/\i<=l.length/\k=l.length-i/\∀ j (hj:j<l.length),j<i->NameOk l[j],⟨_,rfl,rfl,rfl,rfl,rfl,rfl,0,rfl,by omega,rfl,fun j _ z=>absurd z (by omega)⟩,?_⟩
 rintro k n4 l5 a6 n7 n8 x9 x10 H11 ⟨rfl,rfl,rfl,rfl,rfl,rfl,i,rfl,hi,rfl,hv⟩
 refine ⟨fun hlt=>?_,fun hge=>?_⟩
 .have hlt:i<l.length:=by have:=of_decide_eq_true hlt; omega
  have e0:Int.toNat ((i:Nat):Int)=i:=by omega
  have hi1:IntKind.wrap .i64 (((i:Nat):Int)+1)=((i+1:Nat):Int):=by rw [wrap64 (by omega) (by omega)]; omega
  obtain ⟨b0,o0,ha,r0⟩:=s_ld hl hlt
  rw [e0,hi1]
  refine ⟨⟨by omega,by omega⟩,b0,o0,ha,_,r0,c49 ok fun b hb=>⟨b,rfl,fun z=>?_,fun z=>?_⟩⟩
  .refine hq false ⟨fun y=>(by cases y),fun y=>?_⟩
   have:=hb.2 (y i hlt)
   rw [this] at z; cases z
  .have bt:b=true:=by cases b; cases z; rfl
   refine ⟨l.length-(i+1),by omega,rfl,rfl,rfl,rfl,rfl,rfl,i+1,rfl,by omega,rfl,fun j hj z=>?_⟩
   by_cases y:j=i
   .subst y; exact hb.1 bt
   .exact hv j hj (by omega)
 .have hge:i=l.length:=by have:=of_decide_eq_false hge; omega
  subst hge
  exact hq true ⟨fun _ j hj=>hv j hj hj,fun _=>rfl⟩
theorem c39 {a:OA} {c:Nat} {l:List ByteArray} {H:KH} {Q:PQ} (ho:SlOk H 1 a l.length c) (hl:kold H 1 a l.length=some (sC l)) (hs:l.length<=1000000) (hq:∀ b,(b=true↔NamesOk l)->Q (.bool b) H):Does (env Try.prog) 39 [.slice a l.length c] H Q:=by
 refine fn39 ok (c48 ok hl hs fun b hb=>⟨b,rfl,fun z=>c50 ok ho hl hs fun b2 h2=>⟨b2,rfl,hq b2 ⟨fun y=>⟨hb.1 z,h2.1 y⟩,fun y=>h2.2 y.b⟩⟩,fun z=>hq false ⟨fun y=>(by cases y),fun y=>?_⟩⟩)
 have:=hb.2 y.a
 rw [z] at this; cases this
theorem c59 {n:Nat} {H:KH} {Q:PQ} (hs:n<=1000) (hq:∀ a c H',Nr H H' 1 a 0 c []->Q (.slice a 0 c) H'):Does (env Try.prog) 59 [.slice none 0 0,.int .i64 ((n:Nat):Int)] H Q:=by
 refine fn59 ok ⟨fun z=>by have:=of_decide_eq_true z; omega,fun _=>⟨by decide,fun z=>?_,fun z=>hq none 0 H (.nil (Le.refl H))⟩⟩
 have e1:IntKind.wrap .i64 (((0:Nat):Int)-((0:Nat):Int))=0:=by decide
 have e2:IntKind.wrap .i64 (((n:Nat):Int)-0)=n:=by rw [wrap64 (by omega) (by omega)]; omega
 rw [e1,e2] at z ⊢
 refine ⟨by decide,none,0,0,rfl,fun nm hnm=>?_⟩
 have e3:Int.toNat ((n:Nat):Int)=n:=by omega
 have hk:knew H ⟨1,16,false,4,0,0,[],[.string ⟨#[]⟩]⟩ (.int .i64 ((n:Nat):Int))=some (n,lrep [.string ⟨#[]⟩] n):=by
  have h1:decide (0<=((n:Nat):Int))=true:=by simp
  have h2:decide (((n:Nat):Int)<=1000000)=true:=by rw [decide_eq_true_eq]; omega
  unfold knew
  simp only [h1,h2,Bool.and_self,cond_true,e3]
 obtain ⟨a',c',H',f1,f2,f3⟩:=(Nr.nil (sz:=tiS.size) (Le.refl H)).app (ti:=tiS) (nm:=nm) (m:=n) (new:=lrep [.string ⟨#[]⟩] n) hnm (by rw [lrepLen]; rfl) (by omega) (by decide) (by decide)
 rw [Nat.zero_add] at f1 f2
 refine ⟨_,_,hk,a',_,c',H',f1,?_⟩
 obtain ⟨g1,g2⟩:=f2.g.cut (m:=0) (by omega) (by decide)
 refine ⟨a',_,c',g1,hq a' c' H' ⟨f2.le,?_,f2.fr⟩⟩
 rw [Nat.zero_mul,List.take_zero] at g2
 exact g2
theorem c51 {b:Nat} {a a':OA} {c c':Nat} {l m:List ByteArray} {H:KH} {Q:PQ} (hb:H b=some (mkEnt [.slice a l.length c,.slice a' m.length c'] 0)) (hl:kold H 1 a l.length=some (sC l)) (hm:kold H 1 a' m.length=some (sC m)) (hs:l.length+m.length<=1000)
 (hq:∀ a2 c2 H',Nr H H' 1 a2 (l++m).length c2 (sC (l++m))->Q (.slice a2 (l++m).length c2) H'):Does (env Try.prog) 51 [.slice (some ⟨b,0,none⟩) 2 2] H Q:=by
 have hld:ld H ⟨b,0,none⟩ [.slice a l.length c,.slice a' m.length c']:=⟨rfl,_,hb,mk_rd (cs:=[.slice a l.length c,.slice a' m.length c']) (u:=0)⟩
 have r0:ld H ⟨b,0+0*1,none⟩ [.slice a l.length c]:=ldSub hld 0 1 (by simp)
 have r1:ld H ⟨b,0+1*1,none⟩ [.slice a' m.length c']:=ldSub hld 1 1 (by simp)
 refine fn51 ok ?_
 show vc51_L3 _ _ _ _ _
 unfold vc51_L3
 refine ⟨fun k a4 n5 n6 x7 a8 n9 n10 x11 x12 H13=>a4=some ⟨b,0,none⟩/\n5=2/\n6=2/\a8=some ⟨b,0,none⟩/\n9=2/\n10=2/\x11=2/\H13=H/\((k=2/\x12=0/\x7=0)\/(k=1/\x12=1/\x7=l.length)\/(k=0/\x12=2/\x7=((l.length+m.length:Nat):Int))),⟨2,rfl,rfl,rfl,rfl,rfl,rfl,rfl,rfl,.inl ⟨rfl,rfl,rfl⟩⟩,?_⟩
 rintro k a4 n5 n6 x7 a8 n9 n10 x11 x12 H13 ⟨rfl,rfl,rfl,rfl,rfl,rfl,rfl,rfl,hx⟩
 refine ⟨fun hlt=>?_,fun hge=>?_⟩
 .rcases hx with ⟨rfl,rfl,rfl⟩ | ⟨rfl,rfl,rfl⟩ | ⟨rfl,rfl,rfl⟩
  .have e:IntKind.wrap .i64 (0+((l.length:Nat):Int))=l.length:=by rw [wrap64 (by omega) (by omega)]; omega
   refine ⟨⟨by decide,by decide⟩,b,0,rfl,a,_,c,r0,fun z=>?_,fun z=>⟨1,by decide,rfl,rfl,rfl,rfl,rfl,rfl,rfl,rfl,.inr (.inl ⟨rfl,rfl,e⟩)⟩⟩
   rw [e] at z
   have:=of_decide_eq_true z; omega
  .have e:IntKind.wrap .i64 (((l.length:Nat):Int)+((m.length:Nat):Int))=((l.length+m.length:Nat):Int):=by rw [wrap64 (by omega) (by omega)]; omega
   refine ⟨⟨by decide,by decide⟩,b,0,rfl,a',_,c',r1,fun z=>?_,fun z=>⟨0,by decide,rfl,rfl,rfl,rfl,rfl,rfl,rfl,rfl,.inr (.inr ⟨rfl,rfl,e⟩)⟩⟩
   rw [e] at z
   have:=of_decide_eq_true z; omega
  .have:=of_decide_eq_true hlt; omega
 .rcases hx with ⟨rfl,rfl,rfl⟩ | ⟨rfl,rfl,rfl⟩ | ⟨rfl,rfl,rfl⟩
  .exact absurd (of_decide_eq_false hge) (by decide)
  .exact absurd (of_decide_eq_false hge) (by decide)
  refine c59 ok (by omega) fun a16 c18 H15 o15=>⟨a16,_,c18,rfl,?_⟩
  unfold vc51_L2
  refine ⟨fun k a4 n5 n6 a7 n8 n9 x10 x11 H12=>a7=some ⟨b,0,none⟩/\n8=2/\x10=2/\((k=2/\x11=0/\Nr H13 H12 1 a4 n5 n6 []/\n5=0)\/(k=1/\x11=1/\Nr H13 H12 1 a4 n5 n6 (sC l)/\n5=l.length)\/(k=0/\x11=2/\Nr H13 H12 1 a4 n5 n6 (sC (l++m))/\n5=(l++m).length)),⟨2,rfl,rfl,rfl,.inl ⟨rfl,rfl,o15,rfl⟩⟩,?_⟩
  rintro k a4 n5 n6 a7 n8 n9 x10 x11 H12 ⟨rfl,rfl,rfl,hx⟩
  refine ⟨fun hlt=>?_,fun hge=>?_⟩
  .rcases hx with ⟨rfl,rfl,o,rfl⟩ | ⟨rfl,rfl,o,rfl⟩ | ⟨rfl,rfl,o,rfl⟩
   .refine ⟨⟨by decide,by decide⟩,b,0,rfl,a,_,c,o.le.ld r0,fun nm hnm=>?_⟩
    obtain ⟨a5,c5,H5,f1,f2,f3⟩:=o.app (ti:=tiS) (nm:=nm) (m:=l.length) (new:=sC l) hnm (by rw [sC_len]; exact (Nat.mul_one _).symm) (by omega) (by decide) (by decide)
    rw [Nat.zero_add] at f1 f2
    refine ⟨_,_,knew_of (ti:=tiS) (o.le.kold hl),a5,_,c5,H5,?_,1,by decide,rfl,rfl,rfl,.inr (.inl ⟨rfl,rfl,f2,rfl⟩)⟩
    exact f1
   .refine ⟨⟨by decide,by decide⟩,b,0,rfl,a',_,c',o.le.ld r1,fun nm hnm=>?_⟩
    obtain ⟨a5,c5,H5,f1,f2,f3⟩:=o.app (ti:=tiS) (nm:=nm) (m:=m.length) (new:=sC m) hnm (by rw [sC_len]; exact (Nat.mul_one _).symm) (by omega) (by decide) (by decide)
    rw [<- sC_app,<- List.length_append] at f2
    rw [<- List.length_append] at f1
    refine ⟨_,_,knew_of (ti:=tiS) (o.le.kold hm),a5,_,c5,H5,?_,0,by decide,rfl,rfl,rfl,.inr (.inr ⟨rfl,rfl,f2,rfl⟩)⟩
    exact f1
   .have:=of_decide_eq_true hlt; omega
  .rcases hx with ⟨rfl,rfl,o,rfl⟩ | ⟨rfl,rfl,o,rfl⟩ | ⟨rfl,rfl,o,rfl⟩
   .exact absurd (of_decide_eq_false hge) (by decide)
   .exact absurd (of_decide_eq_false hge) (by decide)
   exact hq _ _ _ o
theorem c40 {g:Gm} {H:KH} {Q:PQ} (hg:GI H g) (hs:g.toks.length+g.nts.length<=1000) (hq:∀ a c H',Nr H H' 1 a (namesG g).length c (sC (namesG g))->Q (.slice a (namesG g).length c) H'):Does (env Try.prog) 40 [gv g] H Q:=by
 refine fn40 ok ?_
 show vc40_L3 _ _ _ _ _ _ _ _ _ _ _
 unfold vc40_L3
 refine ⟨fun k a4 n5 n6 a7 n8 n9 a10 n11 n12 a13 n14 n15 a16 n17 n18 x19 x20 H21=>a7=g.na/\n8=g.nts.length/\a16=g.ta/\n17=g.toks.length/\x19=g.toks.length/\∃ i:Nat,x20=i/\i<=g.toks.length/\k=g.toks.length-i/\n14=i/\Nr H H21 1 a13 n14 n15 (sC ((g.toks.take i).map Tk.name)),⟨_,rfl,rfl,rfl,rfl,rfl,0,rfl,by omega,rfl,rfl,.nil (Le.refl H)⟩,?_⟩
 rintro k a4 n5 n6 a7 n8 n9 a10 n11 n12 a13 n14 n15 a16 n17 n18 x19 x20 H21 ⟨rfl,rfl,rfl,rfl,rfl,i,rfl,hi,rfl,rfl,o⟩
 refine ⟨fun hlt=>?_,fun hge=>?_⟩
 .have hlt:n14<g.toks.length:=by have:=of_decide_eq_true hlt; omega
  have e0:Int.toNat ((n14:Nat):Int)=n14:=by omega
  have hi1:IntKind.wrap .i64 (((n14:Nat):Int)+1)=((n14+1:Nat):Int):=by rw [wrap64 (by omega) (by omega)]; omega
  obtain ⟨b0,o0,ha,r0⟩:=tk_ld (o.le.kold hg.t) hlt
  rw [e0,hi1]
  refine ⟨⟨by omega,by omega⟩,b0,o0,ha,_,_,_,r0,fun n6 h6 n7 h7=>⟨_,_,knew_of (ti:=tiS) (lit_kold (if_pos rfl) rfl),?_⟩⟩
  obtain ⟨a5,c5,H5,f1,f2,f3⟩:=(o.up (Le.new h6)).app (ti:=tiS) (nm:=n7) (m:=1) (new:=[.string g.toks[n14].name]) h7 rfl (by omega) (by decide) (by decide)
  refine ⟨a5,_,c5,H5,f1,g.toks.length-(n14+1),by omega,rfl,rfl,rfl,rfl,rfl,n14+1,rfl,by omega,rfl,rfl,?_⟩
  have e:sC ((g.toks.take (n14+1)).map Tk.name)=sC ((g.toks.take n14).map Tk.name)++[.string g.toks[n14].name]:=by
   rw [List.take_succ_eq_append_getElem hlt,List.map_append,sC_app]; rfl
  rw [e]; exact f2
 .have hge:n14=g.toks.length:=by have:=of_decide_eq_false hge; omega
  subst hge
  rw [List.take_length] at o
  unfold vc40_L2
  refine ⟨fun k a4 n5 n6 a7 n8 n9 x10 x11 H12=>a7=g.na/\n8=g.nts.length/\x10=g.nts.length/\∃ i:Nat,x11=i/\i<=g.nts.length/\k=g.nts.length-i/\n5=g.toks.length+i/\Nr H H12 1 a4 n5 n6 (sC (g.toks.map Tk.name++(g.nts.take i).map Nt.name)),⟨_,rfl,rfl,rfl,0,rfl,by omega,rfl,rfl,by simpa using o⟩,?_⟩
  rintro k a4 n5 n6 a7 n8 n9 x10 x11 H12 ⟨rfl,rfl,rfl,i,rfl,hi,rfl,rfl,o⟩
  refine ⟨fun hlt=>?_,fun hge=>?_⟩
  .have hlt:i<g.nts.length:=by have:=of_decide_eq_true hlt; omega
   have e0:Int.toNat ((i:Nat):Int)=i:=by omega
   have hi1:IntKind.wrap .i64 (((i:Nat):Int)+1)=((i+1:Nat):Int):=by rw [wrap64 (by omega) (by omega)]; omega
   obtain ⟨b0,o0,ha,r0⟩:=nt_ld (o.le.kold hg.n) hlt
   rw [e0,hi1]
   refine ⟨⟨by omega,by omega⟩,b0,o0,ha,_,_,_,_,_,_,_,r0,fun n6 h6 n7 h7=>⟨_,_,knew_of (ti:=tiS) (lit_kold (if_pos rfl) rfl),?_⟩⟩
   obtain ⟨a5,c5,H5,f1,f2,f3⟩:=(o.up (Le.new h6)).app (ti:=tiS) (nm:=n7) (m:=1) (new:=[.string g.nts[i].name]) h7 rfl (by omega) (by decide) (by decide)
   refine ⟨a5,_,c5,H5,f1,g.nts.length-(i+1),by omega,rfl,rfl,rfl,i+1,rfl,by omega,rfl,rfl,?_⟩
   have e:sC (g.toks.map Tk.name++(g.nts.take (i+1)).map Nt.name)=sC (g.toks.map Tk.name++(g.nts.take i).map Nt.name)++[.string g.nts[i].name]:=by
    rw [List.take_succ_eq_append_getElem hlt,List.map_append,<- List.append_assoc,sC_app]; rfl
   rw [e]; exact f2
  .have hge:i=g.nts.length:=by have:=of_decide_eq_false hge; omega
   subst hge
   rw [List.take_length] at o
   have e:g.toks.length+g.nts.length=(namesG g).length:=by unfold namesG; simp
   rw [e] at o ⊢
   exact hq _ _ _ o
theorem c42 {x:Nt} {H:KH} {Q:PQ} (h1:kold H 1 x.ia x.inh.length=some (sC x.inh)) (h2:kold H 1 x.sa x.syn.length=some (sC x.syn)) (hs:x.inh.length<=1000) (ht:x.syn.length<=1000) (hq:∀ b H',Le H H'->(b=true↔AttrsOk x)->Q (.bool b) H'):Does (env Try.prog) 42 [ntV x] H Q:=by
 have e:IntKind.wrap .i64 (((x.inh.length:Nat):Int)+((x.syn.length:Nat):Int))=((x.inh.length+x.syn.length:Nat):Int):=by rw [wrap64 (by omega) (by omega)]; omega
 refine fn42 ok ?_
 unfold vc42
 rw [e]
 refine ⟨fun z n1 hn=>?_,fun z=>hq false H (Le.refl H) ⟨fun y=>(by cases y),fun y=>?_⟩⟩
 .have z:x.inh.length+x.syn.length<=4:=by have:=of_decide_eq_true z; omega
  have hl:=Le.new (e:=mkEnt [.slice x.ia x.inh.length x.ic,.slice x.sa x.syn.length x.sc] 0) hn
  refine c51 ok (l:=x.inh) (m:=x.syn) (if_pos rfl) (hl.kold h1) (hl.kold h2) (by omega) fun a2 c2 H3 o=>⟨a2,_,c2,rfl,c39 ok (o.g.ok (by decide)) o.row (by simp; omega) fun b hb=>⟨b,rfl,hq b H3 (hl.trans o.le) ⟨fun y=>⟨z,hb.1 y⟩,fun y=>hb.2 y.b⟩⟩⟩
 .have:=of_decide_eq_false z
  have:=y.a
  omega
theorem c41 {g:Gm} {H:KH} {Q:PQ} (hg:GI H g) (hs:g.nts.length<=1000) (hf:∀ i (h:i<g.nts.length),g.nts[i].inh.length<=1000/\g.nts[i].syn.length<=1000) (hq:∀ b H',Le H H'->(b=true↔∀ i (h:i<g.nts.length),AttrsOk g.nts[i])->Q (.bool b) H'):Does (env Try.prog) 41 [.slice g.na g.nts.length g.nc,.func (.func 42) #[] #[]] H Q:=by
 refine fn41 ok ?_
 show vc41_L1 _ _ _ _ _ _
 unfold vc41_L1
 refine ⟨fun k n4 l5 a6 n7 n8 x9 x10 H11=>n4=42/\l5=[]/\a6=g.na/\n7=g.nts.length/\x9=g.nts.length/\Le H H11/\∃ i:Nat,x10=i/\i<=g.nts.length/\k=g.nts.length-i/\∀ j (hj:j<g.nts.length),j<i->AttrsOk g.nts[j],⟨_,rfl,rfl,rfl,rfl,rfl,Le.refl H,0,rfl,by omega,rfl,fun j _ z=>absurd z (by omega)⟩,?_⟩
 rintro k n4 l5 a6 n7 n8 x9 x10 H11 ⟨rfl,rfl,rfl,rfl,rfl,hle,i,rfl,hi,rfl,hv⟩
 refine ⟨fun hlt=>?_,fun hge=>?_⟩
 .have hlt:i<g.nts.length:=by have:=of_decide_eq_true hlt; omega
  have e0:Int.toNat ((i:Nat):Int)=i:=by omega
  have hi1:IntKind.wrap .i64 (((i:Nat):Int)+1)=((i+1:Nat):Int):=by rw [wrap64 (by omega) (by omega)]; omega
  obtain ⟨b0,o0,ha,r0⟩:=nt_ld (hle.kold hg.n) hlt
  rw [e0,hi1]
  refine ⟨⟨by omega,by omega⟩,b0,o0,ha,_,_,_,_,_,_,_,r0,c42 ok (x:=g.nts[i]) (hle.kold (hg.ni i hlt).1) (hle.kold (hg.ni i hlt).2) (hf i hlt).1 (hf i hlt).2 fun b H2 h2 hb=>⟨b,rfl,fun z=>?_,fun z=>?_⟩⟩
  .refine hq false H2 (hle.trans h2) ⟨fun y=>(by cases y),fun y=>?_⟩
   have:=hb.2 (y i hlt)
   rw [this] at z; cases z
  .have bt:b=true:=by cases b; cases z; rfl
   refine ⟨g.nts.length-(i+1),by omega,rfl,rfl,rfl,rfl,rfl,hle.trans h2,i+1,rfl,by omega,rfl,fun j hj z=>?_⟩
   by_cases y:j=i
   .subst y; exact hb.1 bt
   .exact hv j hj (by omega)
 .have hge:i=g.nts.length:=by have:=of_decide_eq_false hge; omega
  subst hge
  exact hq true _ hle ⟨fun _ j hj=>hv j hj hj,fun _=>rfl⟩
theorem c55 {g:Gm} {s:Sy} {H:KH} {Q:PQ} (hg:GI H g) (hq:∀ b,(b=true↔SymOk g.toks g.nts.length s)->Q (.bool b) H):Does (env Try.prog) 55 [gv g,syV s] H Q:=by
 refine fn55 ok ⟨fun z=>c60 ok fun b hb=>⟨b,rfl,fun z2=>?_,fun z2=>?_⟩,fun z=>c52 ok fun b hb=>⟨b,rfl,hq b ?_⟩⟩
 .have hp:=hb.1 z2
  have hlt:s.pos.toNat<g.toks.length:=by omega
  obtain ⟨b0,o0,ha,r0⟩:=tk_ld hg.t hlt
  refine ⟨⟨hp.1,hp.2⟩,b0,o0,ha,rfl,_,ldSub r0 2 1 (by simp),hq _ ?_⟩
  rw [Bool.not_eq_true']
  exact ⟨fun y=>⟨hp.1,fun _=>⟨hlt,y⟩,fun y=>(by rw [z] at y; cases y)⟩,fun y=>(y.b z).2⟩
 .refine hq false ⟨fun y=>(by cases y),fun y=>?_⟩
  obtain ⟨h,_⟩:=y.b z
  have:=y.a
  have:=hb.2 ⟨this,by omega⟩
  rw [z2] at this; cases this
 .rw [hb]
  exact ⟨fun y=>⟨y.1,fun w=>(by rw [z] at w; cases w),fun _=>y.2⟩,fun y=>⟨y.a,y.c z⟩⟩
theorem c54 {g:Gm} {a:OA} {c:Nat} {l:List Sy} {H:KH} {Q:PQ} (hg:GI H g) (hl:kold H 2 a l.length=some (syC l)) (hs:l.length<=1000000) (hq:∀ b,(b=true↔∀ i (h:i<l.length),SymOk g.toks g.nts.length l[i])->Q (.bool b) H):Does (env Try.prog) 54 [.slice a l.length c,.func (.func 55) #[gv g] #[]] H Q:=by
 refine fn54 ok (p1:=55) (p1k:=[gv g]) ?_
 show vc54_L1 _ _ _ _ _ _ _
 unfold vc54_L1
 refine ⟨fun k n4 l5 a6 n7 n8 x9 x10 H11=>n4=55/\l5=[gv g]/\a6=a/\n7=l.length/\x9=l.length/\H11=H/\∃ i:Nat,x10=i/\i<=l.length/\k=l.length-i/\∀ j (hj:j<l.length),j<i->SymOk g.toks g.nts.length l[j],⟨_,rfl,rfl,rfl,rfl,rfl,rfl,0,rfl,by omega,rfl,fun j _ z=>absurd z (by omega)⟩,?_⟩
 rintro k n4 l5 a6 n7 n8 x9 x10 H11 ⟨rfl,rfl,rfl,rfl,rfl,rfl,i,rfl,hi,rfl,hv⟩
 refine ⟨fun hlt=>?_,fun hge=>?_⟩
 .have hlt:i<l.length:=by have:=of_decide_eq_true hlt; omega
  have e0:Int.toNat ((i:Nat):Int)=i:=by omega
  have hi1:IntKind.wrap .i64 (((i:Nat):Int)+1)=((i+1:Nat):Int):=by rw [wrap64 (by omega) (by omega)]; omega
  obtain ⟨b0,o0,ha,r0⟩:=sy_ld hl hlt
  rw [e0,hi1]
  refine ⟨⟨by omega,by omega⟩,b0,o0,ha,_,_,r0,c55 ok (g:=g) (s:=l[i]) hg fun b hb=>⟨b,rfl,fun z=>?_,fun z=>?_⟩⟩
  .refine hq false ⟨fun y=>(by cases y),fun y=>?_⟩
   have:=hb.2 (y i hlt)
   rw [this] at z; cases z
  .have bt:b=true:=by cases b; cases z; rfl
   refine ⟨l.length-(i+1),by omega,rfl,rfl,rfl,rfl,rfl,rfl,i+1,rfl,by omega,rfl,fun j hj z=>?_⟩
   by_cases y:j=i
   .subst y; exact hb.1 bt
   .exact hv j hj (by omega)
 .have hge:i=l.length:=by have:=of_decide_eq_false hge; omega
  subst hge
  exact hq true ⟨fun _ j hj=>hv j hj hj,fun _=>rfl⟩
theorem c44 {g:Gm} {x:Pr} {H:KH} {Q:PQ} (hg:GI H g) (hx:kold H 2 x.ra x.right.length=some (syC x.right)) (hs:x.right.length<=1000000000) (hq:∀ b,(b=true↔ProdOk g.toks g.nts.length x)->Q (.bool b) H):Does (env Try.prog) 44 [gv g,prV x] H Q:=by
 refine fn44 ok (c52 ok fun b hb=>⟨b,rfl,fun z=>c53 ok fun b2 h2=>⟨b2,rfl,fun z2=>?_,fun z2=>hq false ⟨fun y=>(by cases y),fun y=>?_⟩⟩,fun z=>hq false ⟨fun y=>(by cases y),fun y=>?_⟩⟩)
 .have h2:=h2.1 z2
  exact c54 ok hg hx (by omega) fun b3 h3=>⟨b3,rfl,hq b3 ⟨fun y=>⟨hb.1 z,by omega,h3.1 y⟩,fun y=>h3.2 y.c⟩⟩
 .have:=h2.2 ⟨by omega,by have:=y.b; omega⟩
  rw [z2] at this; cases this
 .have:=hb.2 y.a
  rw [z] at this; cases this
theorem c43 {g:Gm} {H:KH} {Q:PQ} (hg:GI H g) (hs:g.prods.length<=1000) (hf:∀ i (h:i<g.prods.length),g.prods[i].right.length<=1000) (hq:∀ b,(b=true↔∀ i (h:i<g.prods.length),ProdOk g.toks g.nts.length g.prods[i])->Q (.bool b) H):Does (env Try.prog) 43 [.slice g.pa g.prods.length g.pc,.func (.func 44) #[gv g] #[]] H Q:=by
 refine fn43 ok (p1:=44) (p1k:=[gv g]) ?_
 show vc43_L1 _ _ _ _ _ _ _
 unfold vc43_L1
 refine ⟨fun k n4 l5 a6 n7 n8 x9 x10 H11=>n4=44/\l5=[gv g]/\a6=g.pa/\n7=g.prods.length/\x9=g.prods.length/\H11=H/\∃ i:Nat,x10=i/\i<=g.prods.length/\k=g.prods.length-i/\∀ j (hj:j<g.prods.length),j<i->ProdOk g.toks g.nts.length g.prods[j],⟨_,rfl,rfl,rfl,rfl,rfl,rfl,0,rfl,by omega,rfl,fun j _ z=>absurd z (by omega)⟩,?_⟩
 rintro k n4 l5 a6 n7 n8 x9 x10 H11 ⟨rfl,rfl,rfl,rfl,rfl,rfl,i,rfl,hi,rfl,hv⟩
 refine ⟨fun hlt=>?_,fun hge=>?_⟩
 .have hlt:i<g.prods.length:=by have:=of_decide_eq_true hlt; omega
  have e0:Int.toNat ((i:Nat):Int)=i:=by omega
  have hi1:IntKind.wrap .i64 (((i:Nat):Int)+1)=((i+1:Nat):Int):=by rw [wrap64 (by omega) (by omega)]; omega
  obtain ⟨b0,o0,ha,r0⟩:=pr_ld hg.p hlt
  rw [e0,hi1]
  refine ⟨⟨by omega,by omega⟩,b0,o0,ha,_,_,_,_,_,_,_,r0,c44 ok (g:=g) (x:=g.prods[i]) hg (hg.pi i hlt) (by have:=hf i hlt; omega) fun b hb=>⟨b,rfl,fun z=>?_,fun z=>?_⟩⟩
  .refine hq false ⟨fun y=>(by cases y),fun y=>?_⟩
   have:=hb.2 (y i hlt)
   rw [this] at z; cases z
  .have bt:b=true:=by cases b; cases z; rfl
   refine ⟨g.prods.length-(i+1),by omega,rfl,rfl,rfl,rfl,rfl,rfl,i+1,rfl,by omega,rfl,fun j hj z=>?_⟩
   by_cases y:j=i
   .subst y; exact hb.1 bt
   .exact hv j hj (by omega)
 .have hge:i=g.prods.length:=by have:=of_decide_eq_false hge; omega
  subst hge
  exact hq true ⟨fun _ j hj=>hv j hj hj,fun _=>rfl⟩
theorem c23 {g:Gm} {H:KH} {Q:PQ} (hg:GI H g) (hf:Few g) (hq:∀ b H',Le H H'->(b=true↔MayG g)->Q (.bool b) H'):Does (env Try.prog) 23 [gv g] H Q:=by
 have no:∀ {b:Bool} {R:Prop},(!b)=true->(b=true↔R)->¬ R:=fun {b R} z h r=>by
  have:=h.2 r
  rw [this] at z; cases z
 have yes:∀ {b:Bool} {R:Prop},(!b)=false->(b=true↔R)->R:=fun {b R} z h=>h.1 (by cases b; cases z; rfl)
 have nq:∀ {H'},Le H H'->¬ MayG g->Q (.bool false) H':=fun hl h=>hq false _ hl ⟨fun y=>(by cases y),fun y=>absurd y h⟩
 refine fn23 ok (c36 ok fun b1 h1=>⟨b1,rfl,fun z1=>nq (Le.refl H) fun y=>no z1 h1 ?_,fun z1=>c37 ok fun b2 h2=>⟨b2,rfl,fun z2=>nq (Le.refl H) fun y=>no z2 h2 ?_,fun z2=>c38 ok fun b3 h3=>⟨b3,rfl,fun z3=>nq (Le.refl H) fun y=>no z3 h3 ?_,fun z3=>?_⟩⟩⟩)
 .have:=y.t; omega
 .have:=y.n; omega
 .have:=y.p; omega
 have y1:=yes z1 h1
 have y2:=yes z2 h2
 have y3:=yes z3 h3
 refine c40 ok hg (by omega) fun a c H2 o=>⟨a,_,c,rfl,c39 ok (o.g.ok (by decide)) o.row (by unfold namesG; simp; omega) fun b4 h4=>⟨b4,rfl,fun z4=>?_,fun z4=>nq o.le fun y=>?_⟩⟩
 .refine c41 ok (hg.up o.le) (by omega) (fun i h=>⟨(hf.ns i h).2.1,(hf.ns i h).2.2.1⟩) fun b5 H5 l5 h5=>⟨b5,rfl,fun z5=>?_,fun z5=>nq (o.le.trans l5) fun y=>?_⟩
  .exact c43 ok ((hg.up o.le).up l5) (by omega) hf.ps fun b6 h6=>⟨b6,rfl,hq b6 H5 (o.le.trans l5) ⟨fun y=>⟨by omega,by omega,by omega,h4.1 z4,h5.1 z5,h6.1 y⟩,fun y=>h6.2 y.pr⟩⟩
  .have:=h5.2 y.at_
   rw [z5] at this; cases this
 .have:=h4.2 y.nm
  rw [z4] at this; cases this
theorem c11 {g:Gm} {H:KH} {Q:PQ} (hg:GI H g) (hf:Few g) (hq:∀ b H',Le H H'->(b=true↔MayG g)->Q (.bool b) H'):Does (env Try.prog) 11 [gv g] H Q :=
 fn11 ok (c22 ok (v:=.bool true) ⟨_,_,_,_,_,_,_,_,_,rfl,c23 ok hg hf fun b H' hl hb=>⟨b,rfl,hq b H' hl hb⟩⟩)
end
end Va
end Go.Proofs.Ytdflpllfkengdaa
namespace Go.Ew
open Go.Ev Go.Deep
def tiI:TI:=⟨1,8,false,5,0,0,[],[.int .i64 0]⟩
def offP (ls:List Int) (nt:Int) (i:Nat):List Int:=List.map (fun j:Nat=>(j:Int)) ((List.range i).filter fun j=>decide (ls[j]? = some nt))
def lefts (g:Gm):List Int:=g.prods.map Pr.left
def offG (g:Gm) (nt:Int):List Int:=offP (lefts g) nt g.prods.length
theorem offP_succ (ls:List Int) (nt:Int) (i:Nat):offP ls nt (i+1)=offP ls nt i++(if ls[i]? = some nt then [(i:Int)] else []):=by
 unfold offP
 rw [List.range_succ,List.filter_append,List.map_append]
 congr 1
 by_cases h:ls[i]? = some nt
 .rw [if_pos h]; simp [h]
 .rw [if_neg h]; simp [h]
theorem offP_len (ls:List Int) (nt:Int) (i:Nat):(offP ls nt i).length<=i:=by
 unfold offP
 rw [List.length_map]
 have:=List.length_filter_le (fun j=>decide (ls[j]? = some nt)) (List.range i)
 rwa [List.length_range] at this
theorem lefts_at {g:Gm} {i:Nat} (h:i<g.prods.length):(lefts g)[i]? = some g.prods[i].left:=by unfold lefts; simp [h]
def Ni (X H:KH) (a:OA) (c:Nat) (l:List Int):Prop:=Nr X H 1 a l.length c (inC l)
end Go.Ew
namespace Go.Proofs.Ytdflpllfkengdaa
open Go.Ev Go.Ew
namespace Va
section
variable (ok : EnvOk (env Try.prog))
include ok
theorem c27 {x y:Nt} {H:KH} {Q:PQ} (h1:kold H 1 x.ia x.inh.length=some (sC x.inh)) (h2:kold H 1 x.sa x.syn.length=some (sC x.syn)) (h3:kold H 1 y.ia y.inh.length=some (sC y.inh)) (h4:kold H 1 y.sa y.syn.length=some (sC y.syn)) (s1:x.inh.length<=1000) (s2:x.syn.length<=1000) (hq:∀ b,(b=true↔SameN x y)->Q (.bool b) H):Does (env Try.prog) 27 [ntV x,ntV y] H Q:=by
 refine fn27 ok ⟨fun z=>c46 ok h1 h3 (by omega) fun b hb=>⟨b,rfl,fun z1=>c46 ok h2 h4 (by omega) fun b2 hb2=>⟨b2,rfl,hq b2 ⟨fun w=>⟨strEq_iff.1 z,hb.1 z1,hb2.1 w⟩,fun w=>hb2.2 w.2.2⟩⟩,fun z1=>hq false ⟨fun w=>(by cases w),fun w=>?_⟩⟩,fun z=>hq false ⟨fun w=>(by cases w),fun w=>?_⟩⟩
 .have:=hb.2 w.2.1
  rw [z1] at this; cases this
 .have:=strEq_iff.2 w.1
  rw [z] at this; cases this
theorem c29 {x y:Pr} {H:KH} {Q:PQ} (h1:kold H 2 x.ra x.right.length=some (syC x.right)) (h2:kold H 2 y.ra y.right.length=some (syC y.right)) (s1:x.right.length<=1000) (hq:∀ b,(b=true↔SameP x y)->Q (.bool b) H):Does (env Try.prog) 29 [prV x,prV y] H Q:=by
 refine fn29 ok ⟨fun z=>c47 ok h1 h2 (by omega) fun b hb=>⟨b,rfl,hq b ⟨fun w=>⟨of_decide_eq_true z,hb.1 w⟩,fun w=>hb.2 w.2⟩⟩,fun z=>hq false ⟨fun w=>(by cases w),fun w=>?_⟩⟩
 exact absurd w.1 (of_decide_eq_false z)
theorem c26 {g h:Gm} {H:KH} {Q:PQ} (hg:GI H g) (hh:GI H h) (hs:g.nts.length<=1000) (hf:∀ i (h:i<g.nts.length),g.nts[i].inh.length<=1000/\g.nts[i].syn.length<=1000) (hq:∀ b,(b=true↔∃ e:g.nts.length=h.nts.length,∀ i (h1:i<g.nts.length),SameN g.nts[i] (h.nts[i]'(by omega)))->Q (.bool b) H):Does (env Try.prog) 26 [.slice g.na g.nts.length g.nc,.slice h.na h.nts.length h.nc,.func (.func 27) #[] #[]] H Q:=by
 refine fn26 ok ⟨fun z=>hq false ⟨fun w=>(by cases w),fun w=>?_⟩,fun z=>?_⟩
 .obtain ⟨e,_⟩:=w
  exact absurd (by rw [e]) (of_decide_eq_true z)
 have e:g.nts.length=h.nts.length:=by have:=of_decide_eq_false z; omega
 show vc26_L1 _ _ _ _ _ _ _ _ _
 unfold vc26_L1
 refine ⟨fun k a4 n5 n6 n7 l8 a9 n10 n11 x12 x13 H14=>a4=h.na/\n5=h.nts.length/\n7=27/\l8=[]/\a9=g.na/\n10=g.nts.length/\x12=g.nts.length/\H14=H/\∃ i:Nat,x13=i/\i<=g.nts.length/\k=g.nts.length-i/\∀ j (hj:j<g.nts.length),j<i->SameN g.nts[j] (h.nts[j]'(by omega)),⟨_,rfl,rfl,rfl,rfl,rfl,rfl,rfl,rfl,0,rfl,by omega,rfl,fun j _ z=>absurd z (by omega)⟩,?_⟩
 rintro k a4 n5 n6 n7 l8 a9 n10 n11 x12 x13 H14 ⟨rfl,rfl,rfl,rfl,rfl,rfl,rfl,rfl,i,rfl,hi,rfl,hv⟩
 refine ⟨fun hlt=>?_,fun hge=>?_⟩
 .have hlt:i<g.nts.length:=by have:=of_decide_eq_true hlt; omega
  have e0:Int.toNat ((i:Nat):Int)=i:=by omega
  have hi1:IntKind.wrap .i64 (((i:Nat):Int)+1)=((i+1:Nat):Int):=by rw [wrap64 (by omega) (by omega)]; omega
  obtain ⟨b0,o0,ha,r0⟩:=nt_ld hg.n hlt
  obtain ⟨b1,o1,ha1,r1⟩:=nt_ld hh.n (i:=i) (by omega)
  rw [e0,hi1]
  refine ⟨⟨by omega,by omega⟩,b0,o0,ha,_,_,_,_,_,_,_,r0,⟨by omega,by omega⟩,b1,o1,ha1,_,_,_,_,_,_,_,r1,c27 ok (x:=g.nts[i]) (y:=h.nts[i]'(by omega)) (hg.ni i hlt).1 (hg.ni i hlt).2 (hh.ni i (by omega)).1 (hh.ni i (by omega)).2 (hf i hlt).1 (hf i hlt).2 fun b hb=>⟨b,rfl,fun z=>?_,fun z=>?_⟩⟩
  .refine hq false ⟨fun y=>(by cases y),fun ⟨_,y⟩=>?_⟩
   have:=hb.2 (y i hlt)
   rw [this] at z; cases z
  .have bt:b=true:=by cases b; cases z; rfl
   refine ⟨g.nts.length-(i+1),by omega,rfl,rfl,rfl,rfl,rfl,rfl,rfl,rfl,i+1,rfl,by omega,rfl,fun j hj z=>?_⟩
   by_cases y:j=i
   .subst y; exact hb.1 bt
   .exact hv j hj (by omega)
 .have hge:i=g.nts.length:=by have:=of_decide_eq_false hge; omega
  subst hge
  exact hq true ⟨fun _=>⟨e,fun j hj=>hv j hj hj⟩,fun _=>rfl⟩
theorem c28 {g h:Gm} {H:KH} {Q:PQ} (hg:GI H g) (hh:GI H h) (hs:g.prods.length<=1000) (hf:∀ i (h:i<g.prods.length),g.prods[i].right.length<=1000) (hq:∀ b,(b=true↔∃ e:g.prods.length=h.prods.length,∀ i (h1:i<g.prods.length),SameP g.prods[i] (h.prods[i]'(by omega)))->Q (.bool b) H):Does (env Try.prog) 28 [.slice g.pa g.prods.length g.pc,.slice h.pa h.prods.length h.pc,.func (.func 29) #[] #[]] H Q:=by
 refine fn28 ok ⟨fun z=>hq false ⟨fun w=>(by cases w),fun w=>?_⟩,fun z=>?_⟩
 .obtain ⟨e,_⟩:=w
  exact absurd (by rw [e]) (of_decide_eq_true z)
 have e:g.prods.length=h.prods.length:=by have:=of_decide_eq_false z; omega
 show vc28_L1 _ _ _ _ _ _ _ _ _
 unfold vc28_L1
 refine ⟨fun k a4 n5 n6 n7 l8 a9 n10 n11 x12 x13 H14=>a4=h.pa/\n5=h.prods.length/\n7=29/\l8=[]/\a9=g.pa/\n10=g.prods.length/\x12=g.prods.length/\H14=H/\∃ i:Nat,x13=i/\i<=g.prods.length/\k=g.prods.length-i/\∀ j (hj:j<g.prods.length),j<i->SameP g.prods[j] (h.prods[j]'(by omega)),⟨_,rfl,rfl,rfl,rfl,rfl,rfl,rfl,rfl,0,rfl,by omega,rfl,fun j _ z=>absurd z (by omega)⟩,?_⟩
 rintro k a4 n5 n6 n7 l8 a9 n10 n11 x12 x13 H14 ⟨rfl,rfl,rfl,rfl,rfl,rfl,rfl,rfl,i,rfl,hi,rfl,hv⟩
 refine ⟨fun hlt=>?_,fun hge=>?_⟩
 .have hlt:i<g.prods.length:=by have:=of_decide_eq_true hlt; omega
  have e0:Int.toNat ((i:Nat):Int)=i:=by omega
  have hi1:IntKind.wrap .i64 (((i:Nat):Int)+1)=((i+1:Nat):Int):=by rw [wrap64 (by omega) (by omega)]; omega
  obtain ⟨b0,o0,ha,r0⟩:=pr_ld hg.p hlt
  obtain ⟨b1,o1,ha1,r1⟩:=pr_ld hh.p (i:=i) (by omega)
  rw [e0,hi1]
  refine ⟨⟨by omega,by omega⟩,b0,o0,ha,_,_,_,_,_,_,_,r0,⟨by omega,by omega⟩,b1,o1,ha1,_,_,_,_,_,_,_,r1,c29 ok (x:=g.prods[i]) (y:=h.prods[i]'(by omega)) (hg.pi i hlt) (hh.pi i (by omega)) (hf i hlt) fun b hb=>⟨b,rfl,fun z=>?_,fun z=>?_⟩⟩
  .refine hq false ⟨fun y=>(by cases y),fun ⟨_,y⟩=>?_⟩
   have:=hb.2 (y i hlt)
   rw [this] at z; cases z
  .have bt:b=true:=by cases b; cases z; rfl
   refine ⟨g.prods.length-(i+1),by omega,rfl,rfl,rfl,rfl,rfl,rfl,rfl,rfl,i+1,rfl,by omega,rfl,fun j hj z=>?_⟩
   by_cases y:j=i
   .subst y; exact hb.1 bt
   .exact hv j hj (by omega)
 .have hge:i=g.prods.length:=by have:=of_decide_eq_false hge; omega
  subst hge
  exact hq true ⟨fun _=>⟨e,fun j hj=>hv j hj hj⟩,fun _=>rfl⟩
theorem c13 {g h:Gm} {H:KH} {Q:PQ} (hg:GI H g) (hh:GI H h) (hf:Few g) (hq:∀ b,(b=true↔SameG g h)->Q (.bool b) H):Does (env Try.prog) 13 [gv g,gv h] H Q:=by
 refine fn13 ok (c25 ok hg.t hh.t (by have:=hf.t; omega) fun b1 h1=>⟨b1,rfl,fun z1=>c26 ok hg hh hf.n (fun i h=>⟨(hf.ns i h).2.1,(hf.ns i h).2.2.1⟩) fun b2 h2=>⟨b2,rfl,fun z2=>c28 ok hg hh hf.p hf.ps fun b3 h3=>⟨b3,rfl,hq b3 ⟨fun y=>⟨h1.1 z1,h2.1 z2,h3.1 y⟩,fun y=>h3.2 y.p⟩⟩,fun z2=>hq false ⟨fun y=>(by cases y),fun y=>?_⟩⟩,fun z1=>hq false ⟨fun y=>(by cases y),fun y=>?_⟩⟩)
 .have:=h2.2 y.n
  rw [z2] at this; cases this
 .have:=h1.2 y.t
  rw [z1] at this; cases this
theorem c33 {x:Pr} {nt:Int} {b:Nat} {H:KH} {Q:PQ} (hb:ld H ⟨b,0,none⟩ [.int .i64 nt]) (hq:Q (.bool (decide (x.left=nt))) H):Does (env Try.prog) 33 [prV x,.pointer (some ⟨b,0,none⟩)] H Q:=fn33 ok ⟨_,hb,hq⟩
theorem c32 {g:Gm} {nt:Int} {b:Nat} {H:KH} {Q:PQ} (hg:GI H g) (hb:ld H ⟨b,0,none⟩ [.int .i64 nt]) (hs:g.prods.length<=100000) (hq:∀ a c H',Ni H H' a c (offG g nt)->Q (.slice a (offG g nt).length c) H'):Does (env Try.prog) 32 [.slice g.pa g.prods.length g.pc,.func (.func 33) #[] #[.pointer (some ⟨b,0,none⟩)]] H Q:=by
 refine fn32 ok (p1:=33) (p1k:=[.pointer (some ⟨b,0,none⟩)]) ?_
 show vc32_L1 _ _ _ _ _ _ _
 unfold vc32_L1
 refine ⟨fun k n4 l5 a6 n7 n8 a9 n10 n11 x12 x13 H14=>n4=33/\l5=[.pointer (some ⟨b,0,none⟩)]/\a9=g.pa/\n10=g.prods.length/\x12=g.prods.length/\∃ i:Nat,x13=i/\i<=g.prods.length/\k=g.prods.length-i/\n7=(offP (lefts g) nt i).length/\Nr H H14 1 a6 n7 n8 (inC (offP (lefts g) nt i)),⟨_,rfl,rfl,rfl,rfl,rfl,0,rfl,by omega,rfl,rfl,.nil (Le.refl H)⟩,?_⟩
 rintro k n4 l5 a6 n7 n8 a9 n10 n11 x12 x13 H14 ⟨rfl,rfl,rfl,rfl,rfl,i,rfl,hi,rfl,rfl,o⟩
 refine ⟨fun hlt=>?_,fun hge=>?_⟩
 .have hlt:i<g.prods.length:=by have:=of_decide_eq_true hlt; omega
  have e0:Int.toNat ((i:Nat):Int)=i:=by omega
  have hi1:IntKind.wrap .i64 (((i:Nat):Int)+1)=((i+1:Nat):Int):=by rw [wrap64 (by omega) (by omega)]; omega
  have hl:=offP_len (lefts g) nt i
  obtain ⟨b0,o0,ha,r0⟩:=pr_ld (o.le.kold hg.p) hlt
  rw [e0,hi1]
  refine ⟨⟨by omega,by omega⟩,b0,o0,ha,_,_,_,_,_,_,_,r0,c33 ok (x:=g.prods[i]) (o.le.ld hb) ⟨_,rfl,fun z=>fun n6 h6 n7 h7=>⟨_,_,knew_of (ti:=tiI) (lit_kold (if_pos rfl) rfl),?_⟩,fun z=>?_⟩⟩
  .have z:=of_decide_eq_true z
   obtain ⟨a5,c5,H5,f1,f2,f3⟩:=(o.up (Le.new h6)).app (ti:=tiI) (nm:=n7) (m:=1) (new:=[.int .i64 ((i:Nat):Int)]) h7 rfl (by omega) (by decide) (by decide)
   have e:offP (lefts g) nt (i+1)=offP (lefts g) nt i++[((i:Nat):Int)]:=by rw [offP_succ,if_pos (by rw [lefts_at hlt,z])]
   refine ⟨a5,_,c5,H5,f1,g.prods.length-(i+1),by omega,rfl,rfl,rfl,rfl,rfl,i+1,rfl,by omega,rfl,by rw [e,List.length_append]; rfl,?_⟩
   rw [e,inC_app]; exact f2
  .have z:=of_decide_eq_false z
   have e:offP (lefts g) nt (i+1)=offP (lefts g) nt i:=by rw [offP_succ,if_neg (by rw [lefts_at hlt]; exact fun w=>z (Option.some.inj w)),List.append_nil]
   refine ⟨g.prods.length-(i+1),by omega,rfl,rfl,rfl,rfl,rfl,i+1,rfl,by omega,rfl,by rw [e],?_⟩
   rw [e]; exact o
 .have hge:i=g.prods.length:=by have:=of_decide_eq_false hge; omega
  subst hge
  exact hq _ _ _ o
theorem c15 {g:Gm} {nt:Int} {H:KH} {Q:PQ} (hg:GI H g) (hs:g.prods.length<=100000) (hq:∀ a c H',Ni H H' a c (offG g nt)->Q (.slice a (offG g nt).length c) H'):Does (env Try.prog) 15 [gv g,.int .i64 nt] H Q:=by
 refine fn15 ok fun n1 h1=>c22 ok (v:=.bool true) ⟨_,_,_,_,_,_,_,_,_,rfl,?_⟩
 exact c32 ok (hg.up (Le.new h1)) ⟨rfl,_,if_pos rfl,mk_rd (cs:=[.int .i64 nt]) (u:=0)⟩ hs fun a c H' o=>⟨a,_,c,rfl,hq a c H' (o.from_ (Le.new h1))⟩
theorem c16 {g:Gm} {nt:Int} {H:KH} {Q:PQ} (hg:GI H g) (hs:g.prods.length<=100000) (hq:∀ a c H',Ni H H' a c (offG g nt)->Q (.slice a (offG g nt).length c) H'):Does (env Try.prog) 16 [gv g,.int .i64 nt] H Q:=by
 refine fn16 ok ?_
 show vc16_L1 _ _ _ _ _ _ _ _ _ _ _ _
 unfold vc16_L1
 refine ⟨fun k x4 a5 n6 n7 a8 n9 n10 a11 n12 n13 a14 n15 n16 x17 H18=>x4=nt/\a11=g.pa/\n12=g.prods.length/\∃ i:Nat,x17=i/\i<=g.prods.length/\k=g.prods.length-i/\n15=(offP (lefts g) nt i).length/\Nr H H18 1 a14 n15 n16 (inC (offP (lefts g) nt i)),⟨_,rfl,rfl,rfl,0,rfl,by omega,rfl,rfl,.nil (Le.refl H)⟩,?_⟩
 rintro k x4 a5 n6 n7 a8 n9 n10 a11 n12 n13 a14 n15 n16 x17 H18 ⟨rfl,rfl,rfl,i,rfl,hi,rfl,rfl,o⟩
 refine ⟨fun hlt=>?_,fun hge=>?_⟩
 .have hlt:i<g.prods.length:=by have:=of_decide_eq_true hlt; omega
  have e0:Int.toNat ((i:Nat):Int)=i:=by omega
  have hi1:IntKind.wrap .i64 (((i:Nat):Int)+1)=((i+1:Nat):Int):=by rw [wrap64 (by omega) (by omega)]; omega
  have hl:=offP_len (lefts g) x4 i
  obtain ⟨b0,o0,ha,r0⟩:=pr_ld (o.le.kold hg.p) hlt
  rw [e0,hi1]
  refine ⟨⟨by omega,by omega⟩,b0,o0,ha,rfl,_,ldSub r0 0 1 (by simp),fun z=>fun n6 h6 n7 h7=>⟨_,_,knew_of (ti:=tiI) (lit_kold (if_pos rfl) rfl),?_⟩,fun z=>?_⟩
  .have z:=of_decide_eq_true z
   obtain ⟨a5,c5,H5,f1,f2,f3⟩:=(o.up (Le.new h6)).app (ti:=tiI) (nm:=n7) (m:=1) (new:=[.int .i64 ((i:Nat):Int)]) h7 rfl (by omega) (by decide) (by decide)
   have e:offP (lefts g) x4 (i+1)=offP (lefts g) x4 i++[((i:Nat):Int)]:=by rw [offP_succ,if_pos (by rw [lefts_at hlt,z])]
   refine ⟨a5,_,c5,H5,f1,g.prods.length-(i+1),by omega,rfl,rfl,rfl,i+1,rfl,by omega,rfl,by rw [e,List.length_append]; rfl,?_⟩
   rw [e,inC_app]; exact f2
  .have z:=of_decide_eq_false z
   have e:offP (lefts g) x4 (i+1)=offP (lefts g) x4 i:=by rw [offP_succ,if_neg (by rw [lefts_at hlt]; exact fun w=>z (Option.some.inj w)),List.append_nil]
   refine ⟨g.prods.length-(i+1),by omega,rfl,rfl,rfl,i+1,rfl,by omega,rfl,by rw [e],?_⟩
   rw [e]; exact o
 .have hge:i=g.prods.length:=by have:=of_decide_eq_false hge; omega
  subst hge
  exact hq _ _ _ o
theorem c24 {a:OA} {c:Nat} {l:List ByteArray} {H:KH} {Q:PQ} (hl:kold H 1 a l.length=some (sC l)) (hs:l.length<=1000000) (hz:∀ s∈l,s.size<=140737488355328) (hq:∀ b,(b=true↔NamesOk l)->Q (.bool b) H):Does (env Try.prog) 24 [.slice a l.length c] H Q:=by
 refine fn24 ok ?_
 show vc24_L3 _ _ _ _ _
 unfold vc24_L3
 refine ⟨fun k a4 n5 n6 x7 H8=>a4=a/\n5=l.length/\H8=H/\∃ i:Nat,x7=i/\i<=l.length/\k=l.length-i/\∀ j (hj:j<l.length),j<i->NameOk l[j]/\∀ m (hm:m<j),l[j]≠l[m]'(by omega),⟨_,rfl,rfl,rfl,0,rfl,by omega,rfl,fun j _ z=>absurd z (by omega)⟩,?_⟩
 rintro k a4 n5 n6 x7 H8 ⟨rfl,rfl,rfl,i,rfl,hi,rfl,hv⟩
 refine ⟨fun hlt=>?_,fun hge=>?_⟩
 .have hlt:i<l.length:=by have:=of_decide_eq_true hlt; omega
  have e0:Int.toNat ((i:Nat):Int)=i:=by omega
  have hi1:IntKind.wrap .i64 (((i:Nat):Int)+1)=((i+1:Nat):Int):=by rw [wrap64 (by omega) (by omega)]; omega
  obtain ⟨b0,o0,ha,r0⟩:=s_ld hl hlt
  unfold vc24_L2
  refine ⟨fun k' a4' n5 n6 x7 x8 H9=>a4'=a4/\n5=l.length/\x7=i/\H9=H8/\∃ j:Nat,x8=j/\j<=i/\k'=i-j/\∀ m (hm:m<l.length),m<j->l[i]≠l[m],⟨_,rfl,rfl,rfl,rfl,0,rfl,by omega,rfl,fun m _ z=>absurd z (by omega)⟩,?_⟩
  rintro k' a4' n5 n6 x7 x8 H9 ⟨rfl,rfl,rfl,rfl,j,rfl,hj,rfl,hw⟩
  refine ⟨fun hlt2=>?_,fun hge2=>?_⟩
  .have hlt2:j<i:=by have:=of_decide_eq_true hlt2; omega
   have e1:Int.toNat ((j:Nat):Int)=j:=by omega
   have hj1:IntKind.wrap .i64 (((j:Nat):Int)+1)=((j+1:Nat):Int):=by rw [wrap64 (by omega) (by omega)]; omega
   obtain ⟨b1,o1,ha1,r1⟩:=s_ld hl (i:=j) (by omega)
   rw [e0,e1,hj1]
   refine ⟨trivial,⟨by omega,by omega⟩,b0,o0,ha,_,r0,⟨by omega,by omega⟩,b1,o1,ha1,_,r1,fun z=>?_,fun z=>?_⟩
   .refine hq false ⟨fun y=>(by cases y),fun y=>?_⟩
    exact absurd (strEq_iff.1 z) (y.b i hlt j hlt2)
   .refine ⟨i-(j+1),by omega,rfl,rfl,rfl,rfl,j+1,rfl,by omega,rfl,fun m hm z2=>?_⟩
    by_cases e:m=j
    .subst e
     intro w
     rw [strEq_iff.2 w] at z; cases z
    .exact hw m hm (by omega)
  .have hge2:j=i:=by have:=of_decide_eq_false hge2; omega
   subst hge2
   rw [e0,hi1]
   refine ⟨⟨by omega,by omega⟩,b0,o0,ha,_,r0,c45 ok (hz _ (List.getElem_mem _)) fun b hb=>⟨b,rfl,fun z=>?_,fun z=>?_⟩⟩
   .refine hq false ⟨fun y=>(by cases y),fun y=>?_⟩
    have:=hb.2 (y.a j hlt)
    rw [this] at z; cases z
   .have bt:b=true:=by cases b; cases z; rfl
    refine ⟨l.length-(j+1),by omega,rfl,rfl,rfl,j+1,rfl,by omega,rfl,fun m hm z2=>?_⟩
    by_cases e:m=j
    .subst e; exact ⟨hb.1 bt,fun m' hm'=>hw m' (by omega) hm'⟩
    .exact hv m hm (by omega)
 .have hge:i=l.length:=by have:=of_decide_eq_false hge; omega
  subst hge
  exact hq true ⟨fun _=>⟨fun j hj=>(hv j hj hj).1,fun j hj=>(hv j hj hj).2⟩,fun _=>rfl⟩
theorem c12 {g:Gm} {H:KH} {Q:PQ} (hg:GI H g) (hf:Few g) (hq:∀ b H',Le H H'->(b=true↔MayG g)->Q (.bool b) H'):Does (env Try.prog) 12 [gv g] H Q:=by
 have nq:∀ {H'},Le H H'->¬ MayG g->Q (.bool false) H':=fun hl h=>hq false _ hl ⟨fun y=>(by cases y),fun y=>absurd y h⟩
 refine fn12 ok ⟨fun z=>nq (Le.refl H) fun y=>?_,fun z1=>⟨fun z=>nq (Le.refl H) fun y=>?_,fun z2=>⟨fun z=>nq (Le.refl H) fun y=>?_,fun z3=>⟨fun z=>nq (Le.refl H) fun y=>?_,fun z4=>⟨fun z=>nq (Le.refl H) fun y=>?_,fun z5=>⟨fun z=>nq (Le.refl H) fun y=>?_,fun z6=>?_⟩⟩⟩⟩⟩⟩
 .have:=of_decide_eq_true z; have:=y.t; omega
 .have:=of_decide_eq_true z; have:=y.t; omega
 .have:=of_decide_eq_true z; have:=y.n; omega
 .have:=of_decide_eq_true z; have:=y.n; omega
 .have:=of_decide_eq_true z; have:=y.p; omega
 .have:=of_decide_eq_true z; have:=y.p; omega
 have y1:1<=g.toks.length/\g.toks.length<=8:=by have:=of_decide_eq_false z1; have:=of_decide_eq_false z2; omega
 have y2:1<=g.nts.length/\g.nts.length<=8:=by have:=of_decide_eq_false z3; have:=of_decide_eq_false z4; omega
 have y3:1<=g.prods.length/\g.prods.length<=16:=by have:=of_decide_eq_false z5; have:=of_decide_eq_false z6; omega
 clear z1 z2 z3 z4 z5 z6
 unfold vc12_L7
 refine ⟨fun k a4 n5 n6 a7 n8 n9 a10 n11 n12 a13 n14 n15 x16 H17=>a4=g.ta/\n5=g.toks.length/\a7=g.na/\n8=g.nts.length/\a10=g.pa/\n11=g.prods.length/\∃ i:Nat,x16=i/\i<=g.toks.length/\k=g.toks.length-i/\n14=i/\Nr H H17 1 a13 n14 n15 (sC ((g.toks.take i).map Tk.name)),⟨_,rfl,rfl,rfl,rfl,rfl,rfl,0,rfl,by omega,rfl,rfl,.nil (Le.refl H)⟩,?_⟩
 rintro k a4 n5 n6 a7 n8 n9 a10 n11 n12 a13 n14 n15 x16 H17 ⟨rfl,rfl,rfl,rfl,rfl,rfl,i,rfl,hi,rfl,rfl,o⟩
 refine ⟨fun hlt=>?_,fun hge=>?_⟩
 .have hlt:n14<g.toks.length:=by have:=of_decide_eq_true hlt; omega
  have e0:Int.toNat ((n14:Nat):Int)=n14:=by omega
  have hi1:IntKind.wrap .i64 (((n14:Nat):Int)+1)=((n14+1:Nat):Int):=by rw [wrap64 (by omega) (by omega)]; omega
  obtain ⟨b0,o0,ha,r0⟩:=tk_ld (o.le.kold hg.t) hlt
  rw [e0,hi1]
  refine ⟨⟨by omega,by omega⟩,b0,o0,ha,rfl,_,ldSub r0 0 1 (by simp),fun n6 h6 n7 h7=>⟨_,_,knew_of (ti:=tiS) (lit_kold (if_pos rfl) rfl),?_⟩⟩
  obtain ⟨a5,c5,H5,f1,f2,f3⟩:=(o.up (Le.new h6)).app (ti:=tiS) (nm:=n7) (m:=1) (new:=[.string g.toks[n14].name]) h7 rfl (by omega) (by decide) (by decide)
  refine ⟨a5,_,c5,H5,f1,g.toks.length-(n14+1),by omega,rfl,rfl,rfl,rfl,rfl,rfl,n14+1,rfl,by omega,rfl,rfl,?_⟩
  have e:sC ((g.toks.take (n14+1)).map Tk.name)=sC ((g.toks.take n14).map Tk.name)++[.string g.toks[n14].name]:=by
   rw [List.take_succ_eq_append_getElem hlt,List.map_append,sC_app]; rfl
  rw [e]; exact f2
 have hge:n14=g.toks.length:=by have:=of_decide_eq_false hge; omega
 subst hge
 rw [List.take_length] at o
 unfold vc12_L6
 refine ⟨fun k a4 n5 n6 a7 n8 n9 a10 n11 n12 a13 n14 n15 x16 H17=>a4=g.ta/\n5=g.toks.length/\a7=g.na/\n8=g.nts.length/\a10=g.pa/\n11=g.prods.length/\∃ i:Nat,x16=i/\i<=g.nts.length/\k=g.nts.length-i/\n14=g.toks.length+i/\Nr H H17 1 a13 n14 n15 (sC (g.toks.map Tk.name++(g.nts.take i).map Nt.name))/\∀ j (hj:j<g.nts.length),j<i->AttrsOk g.nts[j],⟨_,rfl,rfl,rfl,rfl,rfl,rfl,0,rfl,by omega,rfl,rfl,by simpa using o,fun j _ z=>absurd z (by omega)⟩,?_⟩
 rintro k a4 n5 n6 a7 n8 n9 a10 n11 n12 a13 n14 n15 x16 H17 ⟨rfl,rfl,rfl,rfl,rfl,rfl,i,rfl,hi,rfl,rfl,o,hv⟩
 refine ⟨fun hlt=>?_,fun hge=>?_⟩
 .have hlt:i<g.nts.length:=by have:=of_decide_eq_true hlt; omega
  have e0:Int.toNat ((i:Nat):Int)=i:=by omega
  have hi1:IntKind.wrap .i64 (((i:Nat):Int)+1)=((i+1:Nat):Int):=by rw [wrap64 (by omega) (by omega)]; omega
  obtain ⟨b0,o0,ha,r0⟩:=nt_ld (o.le.kold hg.n) hlt
  obtain ⟨_,f1s,f2s,f3s,f4s⟩:=hf.ns i hlt
  rw [e0,hi1]
  refine ⟨⟨by omega,by omega⟩,b0,o0,ha,rfl,_,ldSub r0 0 1 (by simp),fun n6 h6 n7 h7=>⟨_,_,knew_of (ti:=tiS) (lit_kold (if_pos rfl) rfl),?_⟩⟩
  obtain ⟨a5,c5,K,f1,f2,f3⟩:=(o.up (Le.new h6)).app (ti:=tiS) (nm:=n7) (m:=1) (new:=[.string g.nts[i].name]) h7 rfl (by omega) (by decide) (by decide)
  have e:sC (g.toks.map Tk.name++(g.nts.take (i+1)).map Nt.name)=sC (g.toks.map Tk.name++(g.nts.take i).map Nt.name)++[.string g.nts[i].name]:=by
   rw [List.take_succ_eq_append_getElem hlt,List.map_append,<- List.append_assoc,sC_app]; rfl
  rw [<- e] at f2
  obtain ⟨bK,oK,haK,rK⟩:=nt_ld (f2.le.kold hg.n) hlt
  refine ⟨a5,_,c5,K,f1,trivial,fun n12 h12=>⟨⟨by omega,by omega⟩,bK,oK,haK,rfl,_,_,_,(Le.new h12).ld (ldSub rK 1 1 (by simp)),⟨by omega,by omega⟩,bK,oK,haK,rfl,_,_,_,(Le.new h12).ld (ldSub rK 2 1 (by simp)),fun n23 h23=>⟨_,_,knew_of (ti:=tiS) ((Le.new h12).kold (f2.le.kold (hg.ni i hlt).1)),?_⟩⟩⟩
  obtain ⟨a26,c28,H29,g1,g2,g3,g4,g5⟩:=(Own.lit (H0:=K) (H:=KH.new K n12 (mkEnt [] 0)) (sz:=tiS.size) n12 0 [] (if_pos rfl) rfl (by decide) h12).append (ti:=tiS) (m:=g.nts[i].inh.length) (nm:=n23) (new:=sC g.nts[i].inh) (Le.new h12) h23 (by rw [sC_len]; exact (Nat.mul_one _).symm) (by omega) (by decide) (by decide)
  rw [Nat.zero_add,List.nil_append] at g2
  rw [Nat.zero_add] at g1
  refine ⟨a26,_,c28,H29,g1,⟨⟨rfl,rfl⟩,rfl,rfl,⟨⟨by omega,by omega⟩,bK,oK,haK,rfl⟩,⟨rfl,rfl⟩,⟨_,_,_,g3.ld (ldSub rK 2 1 (by simp)),rfl⟩,trivial⟩,fun n35 h35=>⟨_,_,knew_of (ti:=tiS) (g3.kold (f2.le.kold (hg.ni i hlt).2)),?_⟩⟩
  obtain ⟨a38,c40,H41,g6,g7,g8,g9,g10⟩:=g2.append (ti:=tiS) (m:=g.nts[i].syn.length) (nm:=n35) (new:=sC g.nts[i].syn) g3 h35 (by rw [sC_len]; exact (Nat.mul_one _).symm) (by omega) (by decide) (by decide)
  rw [<- sC_app,<- List.length_append] at g7
  rw [<- List.length_append] at g6
  refine ⟨a38,_,c40,H41,g6,trivial,fun z=>nq (f2.le.trans g8) fun y=>?_,fun z=>c24 ok (Own.cells g7) (by simp; omega) (fun s hs=>?_) fun b hb=>⟨b,rfl,fun w=>nq (f2.le.trans g8) fun y=>?_,fun w=>?_⟩⟩
  .have:=of_decide_eq_true z
   have:=(y.at_ i hlt).a
   simp only [List.length_append] at *
   omega
  .rcases List.mem_append.1 hs with q | q
   .exact f3s s q
   .exact f4s s q
  .have:=hb.2 (y.at_ i hlt).b
   rw [this] at w; cases w
  .have bt:b=true:=by cases b; cases w; rfl
   refine ⟨g.nts.length-(i+1),by omega,rfl,rfl,rfl,rfl,rfl,rfl,i+1,rfl,by omega,rfl,rfl,f2.up g8,fun j hj z2=>?_⟩
   by_cases e:j=i
   .subst e
    have z:=of_decide_eq_false z
    simp only [List.length_append] at z
    exact ⟨by omega,hb.1 bt⟩
   .exact hv j hj (by omega)
 have hge:i=g.nts.length:=by have:=of_decide_eq_false hge; omega
 subst hge
 rw [List.take_length] at o
 have hat:∀ j (hj:j<g.nts.length),AttrsOk g.nts[j]:=fun j hj=>hv j hj hj
 clear hv
 unfold vc12_L5
 have el:g.toks.length+g.nts.length=(namesG g).length:=by unfold namesG; simp
 have o:Nr H H17 1 a13 (namesG g).length n15 (sC (namesG g)):=by rw [<- el]; exact o
 rw [el]
 refine ⟨fun k a4 n5 n6 a7 n8 n9 a10 n11 n12 a13' n14 n15' x16 H17'=>a4=g.ta/\n5=g.toks.length/\a7=g.na/\n8=g.nts.length/\a10=g.pa/\n11=g.prods.length/\a13'=a13/\n14=(namesG g).length/\n15'=n15/\H17'=H17/\∃ i:Nat,x16=i/\i<=g.prods.length/\k=g.prods.length-i/\∀ j (hj:j<g.prods.length),j<i->ProdOk g.toks g.nts.length g.prods[j],⟨_,rfl,rfl,rfl,rfl,rfl,rfl,rfl,rfl,rfl,rfl,0,rfl,by omega,rfl,fun j _ z=>absurd z (by omega)⟩,?_⟩
 rintro k a4 n5 n6' a7 n8 n9' a10 n11 n12' a13' n14 n15' x16 H17' ⟨rfl,rfl,rfl,rfl,rfl,rfl,rfl,rfl,rfl,rfl,i,rfl,hi,rfl,hv⟩
 refine ⟨fun hlt=>?_,fun hge=>?_⟩
 .have hlt:i<g.prods.length:=by have:=of_decide_eq_true hlt; omega
  have e0:Int.toNat ((i:Nat):Int)=i:=by omega
  have hi1:IntKind.wrap .i64 (((i:Nat):Int)+1)=((i+1:Nat):Int):=by rw [wrap64 (by omega) (by omega)]; omega
  obtain ⟨b0,o0,ha,r0⟩:=pr_ld (o.le.kold hg.p) hlt
  have hri:=o.le.kold (hg.pi i hlt)
  rw [e0]
  refine ⟨⟨by omega,by omega⟩,b0,o0,ha,_,_,_,_,_,_,_,r0,fun z=>nq o.le fun y=>?_,fun z1=>⟨fun z=>nq o.le fun y=>?_,fun z2=>⟨fun z=>nq o.le fun y=>?_,fun z3=>?_⟩⟩⟩
  .have:=of_decide_eq_true z; have:=(y.pr i hlt).a; omega
  .have:=of_decide_eq_true z; have:=(y.pr i hlt).a; omega
  .have:=of_decide_eq_true z; have:=(y.pr i hlt).b; omega
  have p1:0<=g.prods[i].left/\g.prods[i].left<g.nts.length:=by have:=of_decide_eq_false z1; have:=of_decide_eq_false z2; omega
  have p2:g.prods[i].right.length<=5:=by have:=of_decide_eq_false z3; omega
  unfold vc12_L3
  refine ⟨fun k' a4 n5 n6 a7 n8 n9 a10 n11 n12 a13q n14 n15q x16 x17 a18 n19 n20 a21 n22 n23 x24 H25=>a4=g.ta/\n5=g.toks.length/\a7=g.na/\n8=g.nts.length/\a10=g.pa/\n11=g.prods.length/\a13q=a13'/\n14=(namesG g).length/\n15q=n15'/\H25=H17'/\x16=i/\a18=g.prods[i].ra/\n19=g.prods[i].right.length/\∃ j:Nat,x24=j/\j<=g.prods[i].right.length/\k'=g.prods[i].right.length-j/\∀ m (hm:m<g.prods[i].right.length),m<j->SymOk g.toks g.nts.length g.prods[i].right[m],⟨_,rfl,rfl,rfl,rfl,rfl,rfl,rfl,rfl,rfl,rfl,rfl,rfl,rfl,0,rfl,by omega,rfl,fun j _ z=>absurd z (by omega)⟩,?_⟩
  rintro k' a4 n5 n6'' a7 n8 n9'' a10 n11 n12'' a13q n14 n15q x16 x17 a18 n19 n20 a21 n22 n23 x24 H25 ⟨rfl,rfl,rfl,rfl,rfl,rfl,rfl,rfl,rfl,rfl,rfl,rfl,rfl,j,rfl,hj,rfl,hw⟩
  refine ⟨fun hlt2=>?_,fun hge2=>?_⟩
  .have hlt2:j<g.prods[i].right.length:=by have:=of_decide_eq_true hlt2; omega
   have e1:Int.toNat ((j:Nat):Int)=j:=by omega
   have hj1:IntKind.wrap .i64 (((j:Nat):Int)+1)=((j+1:Nat):Int):=by rw [wrap64 (by omega) (by omega)]; omega
   obtain ⟨b1,o1,ha1,r1⟩:=sy_ld hri hlt2
   have go:SymOk g.toks g.nts.length g.prods[i].right[j]->∀ m (hm:m<g.prods[i].right.length),m<j+1->SymOk g.toks g.nts.length g.prods[i].right[m]:=fun h m hm z=>by
    by_cases e:m=j
    .subst e; exact h
    .exact hw m hm (by omega)
   have no:¬ SymOk g.toks g.nts.length g.prods[i].right[j]->¬ MayG g:=fun h y=>h ((y.pr i hlt).c j hlt2)
   rw [e1,hj1]
   refine ⟨⟨by omega,by omega⟩,b1,o1,ha1,_,_,r1,fun z=>nq o.le (no fun y=>?_),fun z=>⟨fun zb=>⟨fun z4=>nq o.le (no fun y=>?_),fun z4=>?_⟩,fun zb=>⟨fun _=>⟨fun z4=>nq o.le (no fun y=>?_),fun z4=>?_⟩,fun z4=>?_⟩⟩⟩
   .have:=of_decide_eq_true z; have:=y.a; omega
   .have:=of_decide_eq_true z4
    obtain ⟨h,_⟩:=y.b zb
    omega
   .have z:=of_decide_eq_false z
    have z4:=of_decide_eq_false z4
    have hp:(g.prods[i].right[j]).pos.toNat<g.toks.length:=by omega
    obtain ⟨b2,o2,ha2,r2⟩:=tk_ld (o.le.kold hg.t) hp
    refine ⟨⟨by omega,by omega⟩,b2,o2,ha2,rfl,_,ldSub r2 2 1 (by simp),fun z5=>nq o.le (no fun y=>?_),fun z5=>⟨fun w=>(by rw [zb] at w; cases w),fun w=>?_⟩⟩
    .obtain ⟨_,h⟩:=y.b zb
     have z5:g.toks[(g.prods[i].right[j]).pos.toNat].skip=true:=z5
     rw [z5] at h; cases h
    .exact ⟨g.prods[i].right.length-(j+1),by omega,rfl,rfl,rfl,rfl,rfl,rfl,rfl,rfl,rfl,rfl,rfl,rfl,rfl,j+1,rfl,by omega,rfl,go ⟨by omega,fun _=>⟨hp,z5⟩,fun y=>(by rw [zb] at y; cases y)⟩⟩
   .have:=of_decide_eq_true z4
    have:=y.c zb
    omega
   .have z:=of_decide_eq_false z
    have z4:=of_decide_eq_false z4
    exact ⟨g.prods[i].right.length-(j+1),by omega,rfl,rfl,rfl,rfl,rfl,rfl,rfl,rfl,rfl,rfl,rfl,rfl,rfl,j+1,rfl,by omega,rfl,go ⟨by omega,fun y=>(by rw [zb] at y; cases y),fun _=>by omega⟩⟩
   .rw [zb] at z4; cases z4
  .have hge2:j=g.prods[i].right.length:=by have:=of_decide_eq_false hge2; omega
   subst hge2
   rw [hi1]
   refine ⟨g.prods.length-(i+1),by omega,rfl,rfl,rfl,rfl,rfl,rfl,rfl,rfl,rfl,rfl,i+1,rfl,by omega,rfl,fun m hm z=>?_⟩
   by_cases e:m=i
   .subst e; exact ⟨p1,p2,fun m' hm'=>hw m' hm' hm'⟩
   .exact hv m hm (by omega)
 .have hge:i=g.prods.length:=by have:=of_decide_eq_false hge; omega
  subst hge
  refine c24 ok o.row (by unfold namesG; simp; omega) (fun s hs=>?_) fun b hb=>⟨b,rfl,hq b H17' o.le ⟨fun y=>⟨y1,y2,y3,hb.1 y,hat,fun m hm=>hv m hm hm⟩,fun y=>hb.2 y.nm⟩⟩
  rcases List.mem_append.1 hs with q | q
  .obtain ⟨t,ht,rfl⟩:=List.mem_map.1 q
   obtain ⟨m,hm,rfl⟩:=List.mem_iff_getElem.1 ht
   exact hf.ts m hm
  .obtain ⟨t,ht,rfl⟩:=List.mem_map.1 q
   obtain ⟨m,hm,rfl⟩:=List.mem_iff_getElem.1 ht
   exact (hf.ns m hm).1
theorem c14 {g h:Gm} {H:KH} {Q:PQ} (hg:GI H g) (hh:GI H h) (hf:Few g) (hq:∀ b,(b=true↔SameG g h)->Q (.bool b) H):Does (env Try.prog) 14 [gv g,gv h] H Q:=by
 have nq:¬ SameG g h->Q (.bool false) H:=fun h=>hq false ⟨fun y=>(by cases y),fun y=>absurd y h⟩
 refine fn14 ok ⟨fun z=>nq fun y=>?_,fun z1=>⟨fun z=>nq fun y=>?_,fun z2=>⟨fun z=>nq fun y=>?_,fun z3=>?_⟩⟩⟩
 .exact of_decide_eq_true z (by rw [y.t])
 .obtain ⟨e,_⟩:=y.n
  exact of_decide_eq_true z (by rw [e])
 .obtain ⟨e,_⟩:=y.p
  exact of_decide_eq_true z (by rw [e])
 have e1:g.toks.length=h.toks.length:=by have:=of_decide_eq_false z1; omega
 have e2:g.nts.length=h.nts.length:=by have:=of_decide_eq_false z2; omega
 have e3:g.prods.length=h.prods.length:=by have:=of_decide_eq_false z3; omega
 have ft:=hf.t
 have fn:=hf.n
 have fp:=hf.p
 clear z1 z2 z3
 unfold vc14_L5
 refine ⟨fun k a4 n5 n6 a7 n8 n9 a10 n11 n12 a13 n14 n15 a16 n17 n18 a19 n20 n21 x22 H23=>a4=g.ta/\n5=g.toks.length/\a7=g.na/\n8=g.nts.length/\a10=g.pa/\n11=g.prods.length/\a13=h.ta/\n14=h.toks.length/\a16=h.na/\n17=h.nts.length/\a19=h.pa/\n20=h.prods.length/\H23=H/\∃ i:Nat,x22=i/\i<=g.toks.length/\k=g.toks.length-i/\∀ j (hj:j<g.toks.length),j<i->g.toks[j]=h.toks[j]'(by omega),⟨_,rfl,rfl,rfl,rfl,rfl,rfl,rfl,rfl,rfl,rfl,rfl,rfl,rfl,0,rfl,by omega,rfl,fun j _ z=>absurd z (by omega)⟩,?_⟩
 rintro k a4 n5 n6 a7 n8 n9 a10 n11 n12 a13 n14 n15 a16 n17 n18 a19 n20 n21 x22 H23 ⟨rfl,rfl,rfl,rfl,rfl,rfl,rfl,rfl,rfl,rfl,rfl,rfl,rfl,i,rfl,hi,rfl,hv⟩
 refine ⟨fun hlt=>?_,fun hge=>?_⟩
 .have hlt:i<g.toks.length:=by have:=of_decide_eq_true hlt; omega
  have e0:Int.toNat ((i:Nat):Int)=i:=by omega
  have hi1:IntKind.wrap .i64 (((i:Nat):Int)+1)=((i+1:Nat):Int):=by rw [wrap64 (by omega) (by omega)]; omega
  obtain ⟨b0,o0,ha,r0⟩:=tk_ld hg.t hlt
  obtain ⟨b1,o1,ha1,r1⟩:=tk_ld hh.t (i:=i) (by omega)
  rw [e0,hi1]
  refine ⟨trivial,⟨by omega,by omega⟩,b0,o0,ha,_,_,_,r0,⟨by omega,by omega⟩,b1,o1,ha1,_,_,_,r1,fun hc=>nq fun y=>?_,fun hc=>?_⟩
  .have:g.toks[i]=h.toks[i]'(by omega):=by congr 1; exact y.t
   rw [this] at hc
   simp [strEq_iff.2 rfl] at hc
  .have hc:g.toks[i]=h.toks[i]'(by omega):=by
    simp only [Bool.not_eq_false',Bool.and_eq_true,beq_iff_eq,strEq_iff] at hc
    exact tk_ext hc.1 hc.2.1 hc.2.2.1
   refine ⟨g.toks.length-(i+1),by omega,rfl,rfl,rfl,rfl,rfl,rfl,rfl,rfl,rfl,rfl,rfl,rfl,rfl,i+1,rfl,by omega,rfl,fun j hj z=>?_⟩
   by_cases y:j=i
   .subst y; exact hc
   .exact hv j hj (by omega)
 have hge:i=g.toks.length:=by have:=of_decide_eq_false hge; omega
 subst hge
 have ht:g.toks=h.toks:=List.ext_getElem e1 fun j h1 h2=>hv j h1 h1
 clear hv
 unfold vc14_L4
 refine ⟨fun k a4 n5 n6 a7 n8 n9 a10 n11 n12 a13 n14 n15 a16 n17 n18 a19 n20 n21 x22 HH=>a7=g.na/\n8=g.nts.length/\a10=g.pa/\n11=g.prods.length/\a16=h.na/\n17=h.nts.length/\a19=h.pa/\n20=h.prods.length/\HH=H23/\∃ i:Nat,x22=i/\i<=g.nts.length/\k=g.nts.length-i/\∀ j (hj:j<g.nts.length),j<i->SameN g.nts[j] (h.nts[j]'(by omega)),⟨_,rfl,rfl,rfl,rfl,rfl,rfl,rfl,rfl,rfl,0,rfl,by omega,rfl,fun j _ z=>absurd z (by omega)⟩,?_⟩
 rintro k a4 n5 n6 a7 n8 n9 a10 n11 n12 a13 n14 n15 a16 n17 n18 a19 n20 n21 x22 HH ⟨rfl,rfl,rfl,rfl,rfl,rfl,rfl,rfl,rfl,i,rfl,hi,rfl,hv⟩
 refine ⟨fun hlt=>?_,fun hge=>?_⟩
 .have hlt:i<g.nts.length:=by have:=of_decide_eq_true hlt; omega
  have e0:Int.toNat ((i:Nat):Int)=i:=by omega
  have hi1:IntKind.wrap .i64 (((i:Nat):Int)+1)=((i+1:Nat):Int):=by rw [wrap64 (by omega) (by omega)]; omega
  obtain ⟨b0,o0,ha,r0⟩:=nt_ld hg.n hlt
  obtain ⟨b1,o1,ha1,r1⟩:=nt_ld hh.n (i:=i) (by omega)
  have no:¬ SameN g.nts[i] (h.nts[i]'(by omega))->¬ SameG g h:=fun z y=>by
   obtain ⟨_,w⟩:=y.n
   exact z (w i hlt)
  have f1:=(hf.ns i hlt).2.1
  have f2:=(hf.ns i hlt).2.2.1
  rw [e0,hi1]
  refine ⟨trivial,⟨by omega,by omega⟩,b0,o0,ha,_,_,_,_,_,_,_,r0,⟨by omega,by omega⟩,b1,o1,ha1,_,_,_,_,_,_,_,r1,⟨⟨rfl,rfl⟩,rfl,rfl,⟨⟨by omega,by omega⟩,b1,o1,ha1,rfl⟩,⟨_,_,_,_,_,_,_,r1,rfl⟩,trivial⟩,trivial,fun z=>nq (no fun y=>?_),fun z=>c30 ok (hg.ni i hlt).1 (hh.ni i (by omega)).1 (by omega) fun b hb=>⟨b,rfl,fun z1=>nq (no fun y=>?_),fun z1=>c30 ok (hg.ni i hlt).2 (hh.ni i (by omega)).2 (by omega) fun b2 hb2=>⟨b2,rfl,fun z2=>nq (no fun y=>?_),fun z2=>?_⟩⟩⟩
  .rw [strEq_iff.2 y.1] at z; cases z
  .rw [hb.2 y.2.1] at z1; cases z1
  .rw [hb2.2 y.2.2] at z2; cases z2
  .have bt:b=true:=by cases b; cases z1; rfl
   have bt2:b2=true:=by cases b2; cases z2; rfl
   have ez:strEq g.nts[i].name (h.nts[i]'(by omega)).name=true:=by
    cases hz:strEq g.nts[i].name (h.nts[i]'(by omega)).name with
    | true=>rfl
    | false=>rw [hz] at z; cases z
   refine ⟨g.nts.length-(i+1),by omega,rfl,rfl,rfl,rfl,rfl,rfl,rfl,rfl,rfl,i+1,rfl,by omega,rfl,fun j hj z=>?_⟩
   by_cases y:j=i
   .subst y; exact ⟨strEq_iff.1 ez,hb.1 bt,hb2.1 bt2⟩
   .exact hv j hj (by omega)
 have hge:i=g.nts.length:=by have:=of_decide_eq_false hge; omega
 subst hge
 have hn:∀ j (hj:j<g.nts.length),SameN g.nts[j] (h.nts[j]'(by omega)):=fun j hj=>hv j hj hj
 clear hv
 unfold vc14_L3
 refine ⟨fun k a4 n5 n6 a7 n8 n9 a10 n11 n12 a13 n14 n15 a16 n17 n18 a19 n20 n21 x22 H2=>a10=g.pa/\n11=g.prods.length/\a19=h.pa/\n20=h.prods.length/\H2=HH/\∃ i:Nat,x22=i/\i<=g.prods.length/\k=g.prods.length-i/\∀ j (hj:j<g.prods.length),j<i->SameP g.prods[j] (h.prods[j]'(by omega)),⟨_,rfl,rfl,rfl,rfl,rfl,0,rfl,by omega,rfl,fun j _ z=>absurd z (by omega)⟩,?_⟩
 rintro k a4 n5 n6 a7 n8 n9 a10 n11 n12 a13 n14 n15 a16 n17 n18 a19 n20 n21 x22 H2 ⟨rfl,rfl,rfl,rfl,rfl,i,rfl,hi,rfl,hv⟩
 refine ⟨fun hlt=>?_,fun hge=>?_⟩
 .have hlt:i<g.prods.length:=by have:=of_decide_eq_true hlt; omega
  have e0:Int.toNat ((i:Nat):Int)=i:=by omega
  have hi1:IntKind.wrap .i64 (((i:Nat):Int)+1)=((i+1:Nat):Int):=by rw [wrap64 (by omega) (by omega)]; omega
  obtain ⟨b0,o0,ha,r0⟩:=pr_ld hg.p hlt
  obtain ⟨b1,o1,ha1,r1⟩:=pr_ld hh.p (i:=i) (by omega)
  have no:¬ SameP g.prods[i] (h.prods[i]'(by omega))->¬ SameG g h:=fun z y=>by
   obtain ⟨_,w⟩:=y.p
   exact z (w i hlt)
  have f1:=hf.ps i hlt
  rw [e0,hi1]
  refine ⟨trivial,⟨by omega,by omega⟩,b0,o0,ha,rfl,_,ldSub r0 0 1 (by simp),⟨by omega,by omega⟩,b1,o1,ha1,rfl,_,ldSub r1 0 1 (by simp),fun z=>⟨trivial,nq (no fun y=>of_decide_eq_true z y.1)⟩,fun z=>⟨⟨by omega,by omega⟩,b0,o0,ha,rfl,_,_,_,ldSub r0 1 1 (by simp),⟨by omega,by omega⟩,b1,o1,ha1,rfl,_,_,_,ldSub r1 1 1 (by simp),c31 ok (hg.pi i hlt) (hh.pi i (by omega)) (by omega) fun b hb=>⟨b,rfl,trivial,fun z1=>nq (no fun y=>?_),fun z1=>?_⟩⟩⟩
  .rw [hb.2 y.2] at z1; cases z1
  .have bt:b=true:=by cases b; cases z1; rfl
   have z:=of_decide_eq_false z
   refine ⟨g.prods.length-(i+1),by omega,rfl,rfl,rfl,rfl,rfl,i+1,rfl,by omega,rfl,fun j hj w=>?_⟩
   by_cases y:j=i
   .subst y; exact ⟨Decidable.not_not.1 z,hb.1 bt⟩
   .exact hv j hj (by omega)
 .have hge:i=g.prods.length:=by have:=of_decide_eq_false hge; omega
  subst hge
  exact hq true ⟨fun _=>⟨ht,⟨e2,hn⟩,⟨e3,fun j hj=>hv j hj hj⟩⟩,fun _=>rfl⟩
end
end Va
end Go.Proofs.Ytdflpllfkengdaa
namespace Go.Ew
open Go.Ev Go.Deep
structure PkB (Z:KH) (a:OA) (n:Nat):Prop where
 b:∀ i,i<n->∃ b o x,a=some ⟨b,o,none⟩/\ld Z ⟨b,o+i,none⟩ [.int .u8 x]/\0<=x/\x<=255
 n:n<=150
theorem PkB.up {Z Z':KH} {a:OA} {n:Nat} (h:PkB Z a n) (hl:Le Z Z'):PkB Z' a n:=⟨fun i hi=>by
 obtain ⟨b,o,x,h1,h2,h3⟩:=h.b i hi
 exact ⟨b,o,x,h1,hl.ld h2,h3⟩,h.n⟩
structure PkE (H:KH) (p:Nat) (a:OA) (n c:Nat):Prop where
 ex:∃ e x,H p=some e/\wrB e=true/\rd e.cells 0 2=some [.slice a n c,.int .i64 x]/\0<=x/\x<=n
theorem PkE.up {H H':KH} {p n c:Nat} {a:OA} (h:PkE H p a n c) (hl:∀ e,H p=some e->H' p=some e):PkE H' p a n c:=by
 obtain ⟨e,x,h1,h2⟩:=h.ex
 exact ⟨e,x,hl e h1,h2⟩
structure St (Z H:KH) (p:Nat) (a:OA) (n c:Nat) (R:List Rr):Prop where
 r:Rws Z H p R
 e:PkE H p a n c
section
variable {Z H : KH} {p n c : Nat} {a : OA} {R : List Rr}
theorem St.ne (h:St Z H p a n c R) {nm:Nat} (hn:H nm=none):nm≠p:=fun z=>by
 obtain ⟨e,x,h1,_⟩:=h.e.ex
 rw [z,h1] at hn; cases hn
theorem St.new (h:St Z H p a n c R) {nm:Nat} {E:Ent} (hn:H nm=none):St Z (H.new nm E) p a n c R:=⟨h.r.step fun k e _ q=>Le.new hn k e q,h.e.up fun e q=>Le.new hn p e q⟩
theorem St.perm (h:St Z H p a n c R) {R':List Rr} (q:R.Perm R'):St Z H p a n c R':=⟨h.r.perm q,h.e⟩
theorem St.none_ {sz:Nat} (h:St Z H p a n c R):St Z H p a n c (⟨sz,none,0,0,[]⟩ :: R):=⟨h.r.none_,h.e⟩
theorem St.tail {r:Rr} (h:St Z H p a n c (r :: R)):St Z H p a n c R:=⟨h.r.tail,h.e⟩
theorem St.app {r:Rr} {nm m:Nat} {ti:TI} {new:List Value} (h:St Z H p a n c (r :: R)) (hn:H nm=none) (hsz:r.sz=ti.size) (hm:new.length=m*ti.size) (hs:r.n+m<=1000000) (hb:ti.bytes<=1000000) (hz:1<=ti.size) (hro:ti.size<=1000000:=by decide) :
 ∃ a' c' H',kappend H nm ti r.a r.n r.c m new=some (.slice a' (r.n+m) c',H')/\St Z H' p a n c (⟨r.sz,a',r.n+m,c',r.cs++new⟩ :: R):=by
 obtain ⟨a',c',H',f1,f2,f3,f4⟩:=h.r.app (ti:=ti) (nm:=nm) (m:=m) (new:=new) hn (h.ne hn) hsz hm hs hb hz hro
 exact ⟨a',c',H',f1,f2,h.e.up f3⟩
theorem St.grow (h:St Z H p a n c R) {nm:Nat} {E:Ent} (hn:H nm=none):St (Z.new nm E) (H.new nm E) p a n c R/\Le Z (Z.new nm E):=by
 have hz:Z nm=none:=h.r.le.none hn
 refine ⟨⟨(h.new hn).r.base h.r.le.new2 (new_none h.r.zp (fun z=>h.ne hn z.symm)) fun r q k z=>?_,(h.new hn).e⟩,Le.new hz⟩
 obtain ⟨e,q2⟩:=(h.r.ok r q).has z
 exact new_none (h.r.fr r q k z).1 fun w=>by rw [w,hn] at q2; cases q2
theorem St.freeze {r:Rr} (h:St Z H p a n c (r :: R)):∃ Z',Le Z Z'/\St Z' H p a n c R/\kold Z' r.sz r.a r.n=some r.cs:=by
 have g:=h.r.head
 have hd:=List.pairwise_cons.1 h.r.dj
 cases hb:blk r.a with
 | none =>
   exact ⟨Z,Le.refl Z,h.tail,(g.agree (H':=Z) fun k e w _=>by rw [hb] at w; cases w).row⟩
 | some b =>
   obtain ⟨e,he⟩:=g.has hb
   have hf:=h.r.fr r (List.mem_cons_self ..) b hb
   have hle:Le (Z.new b e) H:=fun k e' q=>by
    simp only [KH.new] at q
    by_cases z:k=b
    .rw [if_pos z] at q; cases q; rw [z]; exact he
    .rw [if_neg z] at q; exact h.r.le k e' q
   refine ⟨Z.new b e,Le.new hf.1,⟨h.tail.r.base hle (new_none h.r.zp fun z=>hf.2 z.symm) fun s q k z=>new_none (h.r.fr s (List.mem_cons_of_mem _ q) k z).1 fun w=>hd.1 s q b hb (by rw [<- w]; exact z),h.e⟩,?_⟩
   refine (g.agree (H':=Z.new b e) fun k e' w q=>?_).row
   rw [hb] at w
   cases w
   rw [he] at q
   cases q
   exact if_pos rfl
theorem St.enter (h:St Z H p a n c R):St (H.del p) H p a n c []/\Le Z (H.del p):=⟨⟨.nil (del_le H p) (if_pos rfl),h.e⟩,fun k e q=>del_at (h.r.le k e q) fun z=>by rw [z,h.r.zp] at q; cases q⟩
theorem St.leave {H':KH} (h:St Z H p a n c R) (h':St (H.del p) H' p a n c []):St Z H' p a n c R:=⟨h.r.step fun k e z q=>h'.r.le k e (del_at q z),h'.e⟩
end
theorem hide_new {H:KH} {n:Nat} {e:Ent} (h:H n=none):hideK (H.new n e) [n]=H:=new_del h
theorem back_hide (H:KH) (l:List Nat):backK H (hideK H l) l=H:=by
 funext k
 rw [backK_get,hideK_get]
 split<;>rfl
theorem new_self {H:KH} {n:Nat} {e:Ent}:(H.new n e) n=some e:=if_pos rfl
theorem len_of {α:Type} {f:α->List Value} {k n:Nat} (hf:∀ x,(f x).length=k) (hk:0<k) {H:KH} {a:OA} {l:List α} (h:kold H k a n=some (l.flatMap f)):n=l.length:=by
 have h1:=kold_len h
 rw [fm_len hf] at h1
 exact (Nat.eq_of_mul_eq_mul_right hk h1).symm
structure Xi where
 a:Int
 b:Int
 c:Int
 s:ByteArray
 la:OA
 ln:Nat
 lc:Nat
 d:Int
 e:Int
 ma:OA
 mn:Nat
 mc:Nat
def xiC (x:Xi):List Value:=[.int .i64 x.a,.int .i64 x.b,.int .i64 x.c,.string x.s,.slice x.la x.ln x.lc,.int .i64 x.d,.int .i64 x.e,.slice x.ma x.mn x.mc]
def exC (l:List Xi):List Value:=l.flatMap xiC
theorem exC_app (l m:List Xi):exC (l++m)=exC l++exC m:=List.flatMap_append
theorem ex_ld {H:KH} {a:OA} {i:Nat} {l:List Xi} (h:kold H 8 a l.length=some (exC l)) (hi:i<l.length):∃ b o,a=some ⟨b,o,none⟩/\ld H ⟨b,o+i*8,none⟩ (xiC l[i]):=it_ld (k:=8) (f:=xiC) (fun _=>rfl) h hi
def tiX:TI:=⟨8,104,true,3,0,0,[(0,1),(1,4),(5,1),(6,1),(7,1)],[.int .i64 0,.int .i64 0,.int .i64 0,.string ⟨#[]⟩,.slice none 0 0,.int .i64 0,.int .i64 0,.slice none 0 0]⟩
def tiU:TI:=⟨10,120,true,3,0,0,[(0,1),(1,1),(2,8)],[.int .i64 0,.int .i64 0,.int .i64 0,.int .i64 0,.int .i64 0,.string ⟨#[]⟩,.slice none 0 0,.int .i64 0,.int .i64 0,.slice none 0 0]⟩
theorem St.write {Z H:KH} {p n c sz rn rc:Nat} {a ra:OA} {R:List Rr} {xs ys zs vs:List Value} (h:St Z H p a n c (⟨sz,ra,rn,rc,xs++ys++zs⟩ :: R)) (hy:ys.length=vs.length) (h0:0<(xs++ys++zs).length):∃ b o,ra=some ⟨b,o,none⟩/\ld H ⟨b,o+xs.length,none⟩ ys/\KH.may H b/\St Z (H.put ⟨b,o+xs.length,none⟩ vs) p a n c (⟨sz,ra,rn,rc,xs++vs++zs⟩ :: R):=by
 obtain ⟨b,o,e,f1,f2,f3,f4,_⟩:=h.r.write (vs:=vs) hy h0
 exact ⟨b,o,e,f1,f2,f3,h.e.up fun e q=>put_ne (fun z=>f4 z.symm) q⟩
abbrev T18:=Nat->Nat->Nat->OA->Nat->Nat->OA->Nat->Nat->OA->Nat->Nat->Int->OA->Nat->Nat->OA->Nat->Nat->OA->Nat->Nat->OA->Nat->Nat->Int->KH->Prop
end Go.Ew
namespace Go.Proofs.Ytdflpllfkengdaa
open Go.Ev Go.Ew
namespace Va
section
variable (ok : EnvOk (env Try.prog))
include ok
theorem c17 {Z H:KH} {p n c m:Nat} {a:OA} {R:List Rr} {Q:PQ} (hb:PkB Z a n) (h:St Z H p a n c R) (hm:0<m) (hq:∀ (x:Int) H',0<=x->x<m->St Z H' p a n c R->Q (.int .i64 x) H'):Does (env Try.prog) 17 [.pointer (some ⟨p,0,none⟩),.int .i64 ((m:Nat):Int)] H Q:=by
 obtain ⟨e,x,h1,h2,h3,h4,h5⟩:=h.e.ex
 have hn:=hb.n
 have full:ld H ⟨p,0,none⟩ [.slice a n c,.int .i64 x]:=⟨rfl,e,h1,h3⟩
 refine fn17 ok ⟨trivial,rfl,x,ldSub full 1 1 (by simp),rfl,a,n,c,ldSub full 0 1 (by simp),fun z=>hq 0 H (by omega) (by omega) h,fun z=>?_⟩
 have z:x<n:=by have:=of_decide_eq_false z; omega
 have e1:IntKind.wrap .i64 (x+1)=x+1:=wrap64 (by omega) (by omega)
 have e2:IntKind.wrap .i64 (x+1-1)=x:=by rw [wrap64 (by omega) (by omega)]; omega
 have hr:rd (wr e.cells 1 [.int .i64 (x+1)]) 0 2=some [.slice a n c,.int .i64 (x+1)]:=by
  have:=rdWr (e:=e.cells) (N:=2) (o:=1) (xs:=[.slice a n c]) (ys:=[.int .i64 x]) (zs:=[]) (vs:=[.int .i64 (x+1)]) h3 rfl rfl
  simpa using this
 have hp1:(H.put ⟨p,0+1,none⟩ [.int .i64 (x+1)]) p=some ⟨wr e.cells (0+1) [.int .i64 (x+1)],e.len,e.unk,none⟩:=put_at h1
 have full2:ld (H.put ⟨p,0+1,none⟩ [.int .i64 (x+1)]) ⟨p,0,none⟩ [.slice a n c,.int .i64 (x+1)]:=⟨rfl,_,hp1,hr⟩
 have hst:St Z (H.put ⟨p,0+1,none⟩ [.int .i64 (x+1)]) p a n c R:=⟨h.r.step fun k e' k1 q=>put_ne k1 q,⟨_,x+1,hp1,wrB_keep h2,hr,by omega,by omega⟩⟩
 obtain ⟨b,o,y,ha,hy,y1,y2⟩:=hb.b x.toNat (by omega)
 have ey:IntKind.wrap .i64 y=y:=wrap64 (by omega) (by omega)
 refine ⟨rfl,x,ldSub full 1 1 (by simp),rfl,⟨[.int .i64 x],rfl,ldSub full 1 1 (by simp)⟩,⟨e,h1,h2⟩,trivial,?_⟩
 rw [e1]
 refine ⟨rfl,a,n,c,ldSub full2 0 1 (by simp),rfl,x+1,ldSub full2 1 1 (by simp),?_⟩
 rw [e2]
 refine ⟨⟨by omega,by omega⟩,b,o,ha,y,?_,by omega,?_⟩
 .rw [Nat.mul_one]
  exact hst.r.le.ld hy
 .rw [ey]
  exact hq _ _ (Int.tmod_nonneg _ y1) (Int.tmod_lt_of_pos _ (by omega)) hst
theorem c8 {a:OA} {n c:Nat} {H:KH} {Q:PQ} (hb:PkB H a n) (hq:∀ p H',H p=none->St H H' p a n c []->Q (.pointer (some ⟨p,0,none⟩)) H'):Does (env Try.prog) 8 [.slice a n c] H Q :=
 fn8 ok fun n1 h1=>hq n1 _ h1 ⟨.nil (Le.new h1) h1,⟨mkEnt [.slice a n c,.int .i64 0] 0,0,if_pos rfl,rfl,mk_rd (cs:=[.slice a n c,.int .i64 0]) (u:=0),by omega,by omega⟩⟩
theorem c19 {k x:Int} {s:ByteArray} {a:OA} {n c:Nat} {H:KH} {Q:PQ} (hq:Q (.agg #[.int .i64 0,.int .i64 k,.int .i64 x,.string s,.slice a n c,.int .i64 0,.int .i64 0,.slice none 0 0]) H):Does (env Try.prog) 19 [.agg #[.int .i64 k,.int .i64 x,.string s,.slice a n c]] H Q:=fn19 ok hq
theorem c20 {x y:Int} {H:KH} {Q:PQ} (hq:Q (.agg #[.int .i64 1,.int .i64 0,.int .i64 0,.string ⟨#[]⟩,.slice none 0 0,.int .i64 x,.int .i64 y,.slice none 0 0]) H):Does (env Try.prog) 20 [.int .i64 x,.int .i64 y] H Q:=fn20 ok hq
theorem c21 {x:Int} {H:KH} {Q:PQ} (hq:Q (.agg #[.bool true,.int .i64 x]) H):Does (env Try.prog) 21 [.int .i64 x] H Q:=fn21 ok hq
theorem c34 {ta na pa:OA} {tn tc nc pn pc:Nat} {nts:List Nt} {x:Int} {H:KH} {Q:PQ} (hn:kold H 3 na nts.length=some (ntC nts)) (hs:∀ i (h:i<nts.length),nts[i].inh.length+nts[i].syn.length<=4) (hq:∀ (y:Int),0<=y->y<=4->Q (.int .i64 y) H):Does (env Try.prog) 34 [.agg #[.slice ta tn tc,.slice na nts.length nc,.slice pa pn pc],.int .i64 x] H Q:=by
 refine fn34 ok ⟨fun z=>hq 0 (by omega) (by omega),fun z=>⟨fun z2=>hq 0 (by omega) (by omega),fun z2=>?_⟩⟩
 have z:=of_decide_eq_false z
 have z2:=of_decide_eq_false z2
 obtain ⟨b,o,ha,r⟩:=nt_ld hn (i:=x.toNat) (by omega)
 have:=hs x.toNat (by omega)
 refine ⟨trivial,⟨by omega,by omega⟩,b,o,ha,rfl,_,_,_,ldSub r 1 1 (by simp),⟨by omega,by omega⟩,b,o,ha,rfl,_,_,_,ldSub r 2 1 (by simp),?_⟩
 rw [wrap64 (by omega) (by omega)]
 exact hq _ (by omega) (by omega)
theorem c35 {ta na pa:OA} {tn tc nc pn pc:Nat} {nts:List Nt} {x y:Int} {H:KH} {Q:PQ} (hn:kold H 3 na nts.length=some (ntC nts)) (hq:∀ b,Q (.bool b) H):Does (env Try.prog) 35 [.agg #[.slice ta tn tc,.slice na nts.length nc,.slice pa pn pc],.int .i64 x,.int .i64 y] H Q:=by
 refine fn35 ok ⟨fun z=>⟨fun z2=>⟨fun z3=>?_,fun _=>hq _⟩,fun _=>hq _⟩,fun _=>hq _⟩
 have z:=of_decide_eq_true z
 have z2:=of_decide_eq_true z2
 obtain ⟨b,o,ha,r⟩:=nt_ld hn (i:=x.toNat) (by omega)
 exact ⟨⟨by omega,by omega⟩,b,o,ha,rfl,_,_,_,ldSub r 1 1 (by simp),hq _⟩
theorem l18 {Z H:KH} {p n c:Nat} {a:OA} {nts:List Nt} {na:OA} {right:List Sy} {occ:Nat} {nt:Int} (hb:PkB Z a n) (hn:kold Z 3 na nts.length=some (ntC nts)) (hs:∀ i (h:i<nts.length),nts[i].inh.length+nts[i].syn.length<=4) (ho:occ<=100)
 {a6 a12 a16 a19 a22 a25:OA} {n7 n8 n11 n13 n14 n17 n18 n20 n21 n23 n24 n26 n27:Nat} {x15:Int} {os:List Value} {ins:List Xi} (h:St Z H p a n c [⟨10,a22,n23,n24,os⟩,⟨8,a25,n26,n27,exC ins⟩]) (hc:n23+n26<=5*occ) {k0:Nat} (hk:0<k0) {cont:T18}
 (hq:∀ a22 n23 n24 a25 n26 n27 os ins H',St Z H' p a n c [⟨10,a22,n23,n24,os⟩,⟨8,a25,n26,n27,exC ins⟩]->n23+n26<=5*(occ+1)->cont (k0-1) p 0 a6 n7 n8 na nts.length n11 a12 n13 n14 x15 a16 n17 n18 a19 n20 n21 a22 n23 n24 a25 n26 n27 ((occ+1:Nat):Int) H') :
 vc18_L1 p 0 a6 n7 n8 na nts.length n11 a12 n13 n14 x15 a16 n17 n18 a19 n20 n21 a22 n23 n24 a25 n26 n27 ((occ:Nat):Int) nt H k0 cont:=by
 unfold vc18_L1
 refine ⟨fun k n4 n5 b6 m7 m8 a9 n10 m11 b12 m13 m14 y15 b16 m17 m18 b19 m20 m21 a22 n23 n24 a25 n26 n27 x28 x29 x30 H=>n4=p/\n5=0/\b6=a6/\m7=n7/\m8=n8/\a9=na/\n10=nts.length/\m11=n11/\b12=a12/\m13=n13/\m14=n14/\y15=x15/\b16=a16/\m17=n17/\m18=n18/\b19=a19/\m20=n20/\m21=n21/\x28=occ/\x29=nt/\∃ j:Nat,x30=j/\j<=4/\k=4-j/\n23+n26<=5*occ+j/\∃ os ins,St Z H p a n c [⟨10,a22,n23,n24,os⟩,⟨8,a25,n26,n27,exC ins⟩],⟨4,rfl,rfl,rfl,rfl,rfl,rfl,rfl,rfl,rfl,rfl,rfl,rfl,rfl,rfl,rfl,rfl,rfl,rfl,rfl,rfl,rfl,0,rfl,by omega,rfl,by omega,os,ins,h⟩,?_⟩
 rintro k n4 n5 b6 m7 m8 a9 n10 m11 b12 m13 m14 y15 b16 m17 m18 b19 m20 m21 a22 n23 n24 a25 n26 n27 x28 x29 x30 H ⟨rfl,rfl,rfl,rfl,rfl,rfl,rfl,rfl,rfl,rfl,rfl,rfl,rfl,rfl,rfl,rfl,rfl,rfl,rfl,rfl,j,rfl,hj,rfl,hc,os,ins,h⟩
 have hj1:IntKind.wrap .i64 (((j:Nat):Int)+1)=((j+1:Nat):Int):=by rw [wrap64 (by omega) (by omega)]; omega
 refine c34 ok (h.r.le.kold hn) hs fun y y0 y4=>⟨y,rfl,fun z=>?_,fun z=>?_⟩
 .have z:=of_decide_eq_true z
  unfold vc18_J0
  refine c35 ok (h.r.le.kold hn) fun b=>⟨b,rfl,fun _=>c20 ok ⟨_,_,_,_,_,_,_,_,_,_,_,_,rfl,fun n18 h18 n19 h19=>⟨_,_,knew_of (ti:=tiX) (lit_kold (if_pos rfl) rfl),?_⟩⟩,fun _=>fun n27 h27 n28 h28=>⟨_,_,knew_of (ti:=tiU) (lit_kold (if_pos rfl) rfl),?_⟩⟩
  .obtain ⟨a5,c5,H5,f1,f2⟩:=((h.new h18).perm (.swap _ _ _)).app (ti:=tiX) (nm:=n19) (m:=1) (new:=xiC ⟨1,0,0,⟨#[]⟩,none,0,0,((occ:Nat):Int),((j:Nat):Int),none,0,0⟩) h19 rfl rfl (by show n26+1<=_; omega) (by decide) (by decide)
   refine ⟨a5,_,c5,H5,f1,4-(j+1),by omega,rfl,rfl,rfl,rfl,rfl,rfl,rfl,rfl,rfl,rfl,rfl,rfl,rfl,rfl,rfl,rfl,rfl,rfl,rfl,rfl,rfl,j+1,hj1,by omega,rfl,by show n23+(n26+1)<=_; omega,os,ins++[⟨1,0,0,⟨#[]⟩,none,0,0,((occ:Nat):Int),((j:Nat):Int),none,0,0⟩],?_⟩
   rw [exC_app]
   exact f2.perm (.swap _ _ _)
  .obtain ⟨a5,c5,H5,f1,f2⟩:=(h.new h27).app (ti:=tiU) (nm:=n28) (m:=1) (new:=[.int .i64 ((occ:Nat):Int),.int .i64 ((j:Nat):Int),.int .i64 0,.int .i64 0,.int .i64 0,.string ⟨#[]⟩,.slice none 0 0,.int .i64 0,.int .i64 0,.slice none 0 0]) h28 rfl rfl (by show n23+1<=_; omega) (by decide) (by decide)
   exact ⟨a5,_,c5,H5,f1,4-(j+1),by omega,rfl,rfl,rfl,rfl,rfl,rfl,rfl,rfl,rfl,rfl,rfl,rfl,rfl,rfl,rfl,rfl,rfl,rfl,rfl,rfl,rfl,j+1,hj1,by omega,rfl,by show (n23+1)+n26<=_; omega,_,ins,f2⟩
 .have ho1:IntKind.wrap .i64 (((occ:Nat):Int)+1)=((occ+1:Nat):Int):=by rw [wrap64 (by omega) (by omega)]; omega
  rw [ho1]
  exact ⟨k0-1,by omega,rfl,hq _ _ _ _ _ _ os ins _ h (by omega)⟩
theorem c18 {Z H:KH} {p n c:Nat} {a:OA} {nts:List Nt} {na ra ta pa ua:OA} {tn tc nc pn pc rc un uc:Nat} {right:List Sy} {left:Int} {Q:PQ} (hb:PkB Z a n) (h:St Z H p a n c []) (hn:kold Z 3 na nts.length=some (ntC nts)) (hs:∀ i (h:i<nts.length),nts[i].inh.length+nts[i].syn.length<=4) (hr:kold Z 2 ra right.length=some (syC right)) (hrl:right.length<=50)
 (hq:∀ a' n' c' H',St Z H' p a n c []->Q (.slice a' n' c') H'):Does (env Try.prog) 18 [.pointer (some ⟨p,0,none⟩),.agg #[.slice ta tn tc,.slice na nts.length nc,.slice pa pn pc],.agg #[.int .i64 left,.slice ra right.length rc,.slice ua un uc]] H Q:=by
 refine fn18 ok ?_
 show vc18_L9 _ _ _ _ _ _ _ _ _ _ _ _ _ _ _ _ _ _ _ _
 unfold vc18_L9
 refine ⟨fun k n4 n5 a6 n7 n8 a9 n10 n11 a12 n13 n14 x15 a16 n17 n18 a19 n20 n21 a22 n23 n24 a25 n26 n27 x28 H=>n4=p/\n5=0/\a9=na/\n10=nts.length/\a16=ra/\n17=right.length/\∃ occ:Nat,x28=occ/\occ<=right.length+1/\k=right.length+1-occ/\n23+n26<=5*occ/\∃ os ins,St Z H p a n c [⟨10,a22,n23,n24,os⟩,⟨8,a25,n26,n27,exC ins⟩],⟨_,rfl,rfl,rfl,rfl,rfl,rfl,rfl,0,rfl,by omega,rfl,by omega,[],[],h.none_.none_⟩,?_⟩
 rintro k n4 n5 a6 n7 n8 a9 n10 n11 a12 n13 n14 x15 a16 n17 n18 a19 n20 n21 a22 n23 n24 a25 n26 n27 x28 H ⟨rfl,rfl,rfl,rfl,rfl,rfl,occ,rfl,hocc,rfl,hc,os,ins,h⟩
 refine ⟨fun z=>?_,fun z=>?_⟩
 .have z:occ<=right.length:=by have:=of_decide_eq_true z; omega
  have ho1:IntKind.wrap .i64 (((occ:Nat):Int)+1)=((occ+1:Nat):Int):=by rw [wrap64 (by omega) (by omega)]; omega
  have L:∀ nt,vc18_L1 n4 0 a6 n7 n8 a9 nts.length n11 a12 n13 n14 x15 a16 right.length n18 a19 n20 n21 a22 n23 n24 a25 n26 n27 ((occ:Nat):Int) nt H (right.length+1-occ) (fun k n4' n5 a6 n7 n8 a9' n10 n11 a12 n13 n14 x15 a16' n17 n18 a19 n20 n21 a22 n23 n24 a25 n26 n27 x28 H=>n4'=n4/\n5=0/\a9'=a9/\n10=nts.length/\a16'=a16/\n17=right.length/\∃ occ:Nat,x28=occ/\occ<=right.length+1/\k=right.length+1-occ/\n23+n26<=5*occ/\∃ os ins,St Z H n4 a n c [⟨10,a22,n23,n24,os⟩,⟨8,a25,n26,n27,exC ins⟩]):=fun nt =>
   l18 ok (right:=right) hb hn hs (by omega) h hc (by omega) fun a22 n23 n24 a25 n26 n27 os ins H' h' hc'=>⟨rfl,rfl,rfl,rfl,rfl,rfl,occ+1,rfl,by omega,by omega,hc',os,ins,h'⟩
  refine ⟨fun z2=>?_,fun z2=>L x15⟩
  have z2:0<occ:=by have:=of_decide_eq_true z2; omega
  have em:IntKind.wrap .i64 (((occ:Nat):Int)-1)=((occ-1:Nat):Int):=by rw [wrap64 (by omega) (by omega)]; omega
  have et:Int.toNat ((occ-1:Nat):Int)=occ-1:=by omega
  obtain ⟨b0,o0,ha,r0⟩:=sy_ld (h.r.le.kold hr) (i:=occ-1) (by omega)
  rw [em,et]
  refine ⟨⟨by omega,by omega⟩,b0,o0,ha,rfl,_,ldSub r0 1 1 (by simp),⟨by omega,by omega⟩,b0,o0,ha,rfl,_,ldSub r0 0 1 (by simp),fun _=>fun n7' h7 n8' h8=>⟨_,_,knew_of (ti:=tiX) (lit_kold (if_pos rfl) rfl),?_⟩,fun _=>L _⟩
  obtain ⟨a5,c5,H5,f1,f2⟩:=((h.new h7).perm (.swap _ _ _)).app (ti:=tiX) (nm:=n8') (m:=1) (new:=xiC ⟨2,0,0,⟨#[]⟩,none,0,0,((occ:Nat):Int),0,none,0,0⟩) h8 rfl rfl (by show n26+1<=_; omega) (by decide) (by decide)
  refine ⟨a5,_,c5,H5,f1,right.length+1-(occ+1),by omega,rfl,rfl,rfl,rfl,rfl,rfl,rfl,occ+1,ho1,by omega,rfl,by show n23+(n26+1)<=_; omega,os,ins++[⟨2,0,0,⟨#[]⟩,none,0,0,((occ:Nat):Int),0,none,0,0⟩],?_⟩
  rw [exC_app]
  exact f2.perm (.swap _ _ _)
 .clear z hn hr hs
  obtain ⟨Z',hZ,h',hin⟩:=(h.perm (.swap _ _ _)).freeze
  clear h
  have h:=h'
  clear h'
  have hin:kold Z' 8 a25 n26=some (exC ins):=hin
  have el:n26=ins.length:=len_of (k:=8) (f:=xiC) (fun _=>rfl) (by decide) hin
  subst el
  have hb:=hb.up hZ
  have hq:∀ a' n' c' H',St Z' H' n4 a n c []->Q (.slice a' n' c') H':=fun a' n' c' H' s=>hq a' n' c' H' ⟨s.r.base (hZ.trans s.r.le) (hZ.none s.r.zp) (fun r q=>by cases q),s.e⟩
  have hn23:n23<=1000:=by omega
  clear hc hrl hocc hZ
  unfold vc18_L8
  refine ⟨fun k m4 n5 a6 n7 n8 a9 n10 n11 x12 H13=>m4=n4/\n5=0/\a6=a22/\n7=n23/\n8=n24/\a9=a25/\n10=ins.length/\∃ i:Nat,x12=i/\i<=n23/\k=n23-i/\∃ os,St Z' H13 n4 a n c [⟨10,a22,n23,n24,os⟩],⟨_,rfl,rfl,rfl,rfl,rfl,rfl,rfl,rfl,0,rfl,by omega,rfl,os,h⟩,?_⟩
  clear h
  rintro k m4 n5 a6 n7 n8 a9 n10 n11 x12 H13 ⟨rfl,rfl,rfl,rfl,rfl,rfl,rfl,i,rfl,hi,rfl,os,h⟩
  refine ⟨fun z=>?_,fun z=>hq _ _ _ _ h.tail⟩
  have hlt:i<n7:=by have:=of_decide_eq_true z; omega
  have e0:Int.toNat ((i:Nat):Int)=i:=by omega
  have hi1:IntKind.wrap .i64 (((i:Nat):Int)+1)=((i+1:Nat):Int):=by rw [wrap64 (by omega) (by omega)]; omega
  refine c17 ok (m:=5) hb h (by decide) fun x3 H2 x30 x31 h=>⟨x3,rfl,c19 ok ⟨_,_,_,_,_,_,_,_,_,_,_,_,rfl,c17 ok (m:=3) hb h (by decide) fun x20 H19 x0 x1 h=>⟨x20,rfl,?_⟩⟩⟩
  unfold vc18_L6
  refine ⟨fun k m4' n5 a6' n7' n8' a9' n10 n11 x12 x13 x14 x15 s16 a17 n18 n19 x20 x21 a22 n23 n24 x25 H26=>m4'=m4/\n5=0/\a6'=a6/\n7'=n7/\n8'=n8/\a9'=a9/\n10=ins.length/\x12=i/\0<=x25/\x25<=3/\k=x25.toNat/\∃ os,St Z' H26 m4 a n c [⟨10,a6,n7,n8,os⟩],⟨_,rfl,rfl,rfl,rfl,rfl,rfl,rfl,rfl,rfl,x0,by omega,rfl,os,h⟩,?_⟩
  clear h
  rintro k m4' n5 a6' n7' n8' a9' n10 n11' x12 x13 x14 x15 s16 a17 n18 n19 x20 x21 a22 n23 n24 x25 H26 ⟨rfl,rfl,rfl,rfl,rfl,rfl,rfl,rfl,w0,w3,rfl,os,h⟩
  have J:∀ n11',vc18_J5 ((i:Nat):Int) n7' a6' x13 x14 x15 s16 a17 n18 n19 x20 x21 a22 n23 n24 H26 (n7'-i) (fun k m4 n5 a6 n7 n8 a9 n10 n11 x12 H13=>m4=m4'/\n5=0/\a6=a6'/\n7=n7'/\n8=n8'/\a9=a9'/\n10=ins.length/\∃ i:Nat,x12=i/\i<=n7'/\k=n7'-i/\∃ os,St Z' H13 m4' a n c [⟨10,a6',n7',n8',os⟩]) m4' 0 n8' a9' ins.length n11':=fun n11'=>by
   unfold vc18_J5
   have hol:=kold_len h.r.head.row
   have hol:os.length=n7'*10:=hol
   have hsp:os=os.take (i*10+2)++(os.drop (i*10+2)).take 8++os.drop (i*10+10):=by
    rw [List.append_assoc,show os.drop (i*10+10)=(os.drop (i*10+2)).drop 8 by rw [List.drop_drop],List.take_append_drop,List.take_append_drop]
   have l1:(os.take (i*10+2)).length=i*10+2:=by rw [List.length_take]; omega
   have l2:((os.drop (i*10+2)).take 8).length=8:=by rw [List.length_take,List.length_drop]; omega
   rw [hsp] at h
   obtain ⟨b,o,ea,f1,f2,f3⟩:=h.write (vs:=[.int .i64 x13,.int .i64 x14,.int .i64 x15,.string s16,.slice a17 n18 n19,.int .i64 x20,.int .i64 x21,.slice a22 n23 n24]) l2 (by rw [<- hsp]; omega)
   rw [l1,<- Nat.add_assoc] at f1 f3
   rw [e0,hi1]
   exact ⟨⟨by omega,by omega⟩,b,o,ea,rfl,⟨_,l2,f1⟩,f2,n7'-(i+1),by omega,rfl,rfl,rfl,rfl,rfl,rfl,rfl,rfl,i+1,rfl,by omega,rfl,_,f3⟩
  refine ⟨fun z=>⟨fun z2=>⟨trivial,fun n1 h1=>?_⟩,fun _=>J _⟩,fun _=>J _⟩
  clear J
  have z:=of_decide_eq_true z
  have z2:0<ins.length:=by have:=of_decide_eq_true z2; omega
  rw [hide_new h1]
  refine c17 ok (m:=4) hb h (by decide) fun x4 H3 x40 x41 h=>⟨x4,rfl,fun h3=>⟨⟨rfl,rfl,rfl,rfl,rfl,trivial⟩,⟨by omega,by omega⟩,n1,0,rfl,?_⟩⟩
  rw [back_new,hide_new h3]
  have hl:∀ H:KH,kold (H.new n1 (mkEnt [.int .i64 4,.int .i64 7,.int .i64 13,.int .i64 14] 0)) 1 (some ⟨n1,0,none⟩) ([4,7,13,14]:List Int).length=some (inC [4,7,13,14]):=fun H=>lit_kold (if_pos rfl) rfl
  obtain ⟨b2,o2,e2,r2⟩:=in_ld (hl H3) (i:=x4.toNat) (by show _<4; omega)
  cases e2
  refine ⟨_,r2,c17 ok (m:=ins.length) hb h z2 fun x10 H9 x100 x101 h=>⟨x10,rfl,fun h9=>?_⟩⟩
  rw [back_new]
  obtain ⟨b3,o3,e3,r3⟩:=in_ld (hl H9) (i:=x4.toNat) (by show _<4; omega)
  cases e3
  obtain ⟨b4,o4,e4,r4⟩:=ex_ld ((h.new (E:=mkEnt [.int .i64 4,.int .i64 7,.int .i64 13,.int .i64 14] 0) h9).r.le.kold hin) (i:=x10.toNat) (by omega)
  have ew:IntKind.wrap .i64 (x25-1)=x25-1:=wrap64 (by omega) (by omega)
  refine ⟨⟨⟨⟨by omega,by omega⟩,n1,0,rfl,rfl⟩,⟨_,r3,rfl⟩,rfl,rfl,trivial⟩,⟨by omega,by omega⟩,b4,o4,e4,_,_,_,_,_,_,_,_,_,_,_,_,r4,fun n28 h28=>⟨trivial,(x25-1).toNat,by omega,rfl,rfl,rfl,rfl,rfl,rfl,rfl,rfl,rfl,?_⟩⟩
  rw [ew]
  exact ⟨by omega,by omega,rfl,os,(h.new h9).new h28⟩
end
end Va
end Go.Proofs.Ytdflpllfkengdaa
