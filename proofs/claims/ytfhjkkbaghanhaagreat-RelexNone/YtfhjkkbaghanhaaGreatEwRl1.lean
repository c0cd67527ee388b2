import Derived.Test.YtfhjkkbaghanhaaGreatEwLx2
import Derived.Test.YtfhjkkbaghanhaaGreatEwVcA
import Derived.Test.YtfhjkkbaghanhaaGreatEwNg1
import Derived.Test.YtfhjkkbaghanhaaGreatEwDk9
set_option linter.unusedVariables false
set_option linter.unusedSimpArgs false
namespace Go.Ew
open Go.Ev Go.Deep
abbrev Tok3:=Int × Nat × Int
def tkV (x:Tok3):Value:=.agg #[.int .i64 x.1,.int .i64 ((x.2.1:Nat):Int),.int .i64 x.2.2]
def InT (N:Nat) (x:Tok3):Prop:=0≤x.2.2∧((x.2.1:Nat):Int)+x.2.2≤N
def cutT (s:ByteArray) (x:Tok3):ByteArray:=strCut s ((x.2.1:Nat):Int) (((x.2.1:Nat):Int)+x.2.2)
def sameM (was is:ByteArray) (mv:Int) (o w:Tok3):Bool:=(decide (o.1=w.1)&&(decide (((o.2.1:Nat):Int)+mv=((w.2.1:Nat):Int))&&(decide (o.2.2=w.2.2)&&true)))&&strEq (cutT was o) (cutT is w)
def stayM (was is:ByteArray) (mv:Int):List (Tok3 × Tok3)→Nat
 | []=>0
 | p :: r=>if sameM was is mv p.1 p.2=true then stayM was is mv r+1 else 0
theorem stayM_le (was is:ByteArray) (mv:Int):∀ l,stayM was is mv l≤l.length
 | []=>Nat.le_refl _
 | p :: r=>by
   have:=stayM_le was is mv r
   unfold stayM
   split
   ·simp only [List.length_cons]; omega
   ·omega
def frontM (was is:ByteArray) (l m:List Tok3):Nat:=stayM was is 0 (l.zip m)
def endT (was is:ByteArray) (l m:List Tok3):Nat:=stayM was is (((is.size:Nat):Int)-((was.size:Nat):Int)) (l.reverse.zip m.reverse)
def keptM (was is:ByteArray) (l m:List Tok3):Nat:=frontM was is l m+endT was is (l.drop (frontM was is l m)) (m.drop (frontM was is l m))
theorem tkC_get3:∀ {l:List Tok3} {i:Nat} {x:Tok3},l[i]? = some x→((tkC l).drop (i*3)).take 3=[.int .i64 x.1,.int .i64 ((x.2.1:Nat):Int),.int .i64 x.2.2]
 | [],i,x,h=>by simp at h
 | y :: r,0,x,h=>by
   simp only [List.getElem?_cons_zero,Option.some.injEq] at h
   subst h
   simp [tkC]
 | y :: r,i+1,x,h=>by
   have:=tkC_get3 (l:=r) (i:=i) (x:=x) (by simpa using h)
   have e:(i+1)*3=i*3+1+1+1:=by omega
   simp only [tkC,List.flatMap_cons,List.cons_append,List.nil_append,e,List.drop_succ_cons]
   exact this
theorem tk_ld3 {H:KH} {a:OA} {l:List Tok3} (h:kold H 3 a l.length=some (tkC l)) {i:Nat} {x:Tok3} (hi:l[i]? = some x):∃ b o,a=some ⟨b,o,none⟩∧ld H ⟨b,o+i*3,none⟩ [.int .i64 x.1,.int .i64 ((x.2.1:Nat):Int),.int .i64 x.2.2]:=by
 have hl:i<l.length:=by
  rcases Nat.lt_or_ge i l.length with z | z
  ·exact z
  ·rw [List.getElem?_eq_none z] at hi; cases hi
 obtain ⟨b,o,e,r⟩:=rowAddr h (by omega)
 refine ⟨b,o,e,?_⟩
 have:=r (i*3) 3 (by omega)
 rw [tkC_get3 hi] at this
 exact this
theorem tkC_drop (l:List Tok3) (k:Nat):(tkC l).drop (k*3)=tkC (l.drop k):=by
 induction l generalizing k with
 | nil=>simp [tkC]
 | cons x r ih =>
   cases k with
   | zero=>simp
   | succ k =>
     have e:(k+1)*3=k*3+1+1+1:=by omega
     simp only [tkC,List.flatMap_cons,List.cons_append,List.nil_append,e,List.drop_succ_cons]
     exact ih k
end Go.Ew
namespace Go.Proofs.YtfhjkkbaghanhaaGreat
open Go.Ev Go.Ew
namespace Va
section
variable (ok : EnvOk (env Tryz.prog))
include ok
theorem c25 {p0 p1:Int} {N:Nat} {H:KH} {Q:PQ} (h0:p0<9223372036854775808) (hN:N≤1000000) (hq:Q (.bool (decide (0≤p0∧0≤p1∧p1+p0≤((N:Nat):Int)))) H):Does (env Tryz.prog) 25 [.int .i64 p0,.int .i64 p1,.int .i64 ((N:Nat):Int)] H Q:=by
 refine fn25 ok ⟨fun q0=>⟨fun q1=>?_,fun q1=>?_⟩,fun q0=>?_⟩
 ·have q0:=of_decide_eq_true q0
  have q1:=of_decide_eq_true q1
  rw [wrap64 (by omega) (by omega)]
  have e:(decide (0≤p0∧0≤p1∧p1+p0≤((N:Nat):Int)))=decide (p1≤((N:Nat):Int)-p0):=decide_eq_decide.2 ⟨fun h=>by omega,fun h=>by omega⟩
  rw [e] at hq
  exact hq
 ·have q1:=of_decide_eq_false q1
  rw [decide_eq_false (by omega)] at hq
  exact hq
 ·have q0:=of_decide_eq_false q0
  rw [decide_eq_false (by omega)] at hq
  exact hq
theorem c65 {was is:ByteArray} {o w:Tok3} {mv:Int} {H:KH} {Q:PQ} (hwas:was.size≤1000000) (his:is.size≤1000000) (ho:InT was.size o) (hw:InT is.size w) (hm : -1000000≤mv∧mv≤1000000)
 (hq:Q (.bool (sameM was is mv o w)) H):Does (env Tryz.prog) 65 [.agg #[.string was,.string is],tkV o,tkV w,.int .i64 mv] H Q:=by
 obtain ⟨o1,o2,o3⟩:=o
 obtain ⟨w1,w2,w3⟩:=w
 obtain ⟨a1,a2⟩:=ho
 obtain ⟨b1,b2⟩:=hw
 simp only at a1 a2 b1 b2
 have e1:IntKind.wrap .i64 (((o2:Nat):Int)+o3)=((o2:Nat):Int)+o3:=wrap64 (by omega) (by omega)
 have e2:IntKind.wrap .i64 (((w2:Nat):Int)+w3)=((w2:Nat):Int)+w3:=wrap64 (by omega) (by omega)
 have e3:IntKind.wrap .i64 (((o2:Nat):Int)+mv)=((o2:Nat):Int)+mv:=wrap64 (by omega) (by omega)
 show Does (env Tryz.prog) 65 [.agg #[.string was,.string is],.agg #[.int .i64 o1,.int .i64 ((o2:Nat):Int),.int .i64 o3],.agg #[.int .i64 w1,.int .i64 ((w2:Nat):Int),.int .i64 w3],.int .i64 mv] H Q
 refine fn65 ok (c25 ok (by omega) hwas ⟨_,rfl,fun h=>?_,fun _=>?_⟩)
 ·rw [decide_eq_true (by omega)] at h; cases h
 rw [e1,e2,e3]
 refine ⟨⟨by omega,by omega,by omega⟩,fun h=>⟨⟨by omega,by omega,by omega⟩,?_⟩,fun h=>?_⟩
 ·unfold sameM at hq
  simp only at hq
  rw [h,Bool.true_and] at hq
  exact hq
 ·unfold sameM at hq
  simp only at hq
  rw [h,Bool.false_and] at hq
  exact hq
def Tells (P:Program) (g:Nat) (k:List Value) (ps:List (Tok3 × Tok3)) (H:KH):Prop:=∀ (l:Nat) (Inv:List (Tok3 × Tok3)→KH→Prop) (H0:KH) (Q:PQ),
 (∀ r H1,Inv r H1→Le H H1)→
 (∀ o w r H1,Inv ((o,w) :: r) H1→DoesR (env P) l [tkV o,tkV w] H1 fun v H2=>(v = .bool true∧Inv r H2)∨(v = .bool false∧Q (.tuple #[]) H2))→
 (∀ H1,Inv [] H1→Q (.tuple #[]) H1)→Inv ps H0→Does (env P) g ([.func (.yield l) #[] #[]]++k) H0 Q
theorem c66 {kb ko k1b k1o:Nat} {a b:OA} {c d:Nat} {l m:List Tok3} {H:KH} (hl:kold H 3 a l.length=some (tkC l)) (hm:kold H 3 b m.length=some (tkC m))
 (h0:ld H ⟨kb,ko,none⟩ [.slice a l.length c]) (h1:ld H ⟨k1b,k1o,none⟩ [.slice b m.length d]) (hs:l.length≤1000000) :
 Tells Tryz.prog 66 [.pointer (some ⟨kb,ko,none⟩),.pointer (some ⟨k1b,k1o,none⟩)] (l.zip m) H:=by
 intro y Inv H0 Q hle hstep hend hinv0
 have hz:(l.zip m).length=min l.length m.length:=List.length_zip
 have g0:=hle _ _ hinv0
 refine fn66 ok ⟨a,_,c,g0.ld h0,b,_,d,g0.ld h1,?_⟩
 unfold vc66_L1
 refine ⟨fun n n4 n5 n6 n7 n8 x9 x10 H11=>n4=y∧n5=kb∧n6=ko∧n7=k1b∧n8=k1o∧x9=((min l.length m.length:Nat):Int)∧∃ i:Nat,x10=i∧i≤min l.length m.length∧n=min l.length m.length-i∧Inv ((l.zip m).drop i) H11,⟨_,rfl,rfl,rfl,rfl,rfl,rfl,rfl,by omega,0,rfl,by omega,rfl,hinv0⟩,?_⟩
 rintro n n4 n5 n6 n7 n8 x9 x10 H11 ⟨rfl,rfl,rfl,rfl,rfl,rfl,i,rfl,hi,rfl,hinv⟩
 refine ⟨fun hlt=>?_,fun hge=>?_⟩
 ·have hlt:i<min l.length m.length:=by have:=of_decide_eq_true hlt; omega
  have e0:Int.toNat ((i:Nat):Int)=i:=by omega
  have hle1:=hle _ _ hinv
  obtain ⟨b0,o0,ha,r0⟩:=tk_ld3 (hle1.kold hl) (List.getElem?_eq_getElem (show i<l.length by omega))
  obtain ⟨b1,o1,hb,r1⟩:=tk_ld3 (hle1.kold hm) (List.getElem?_eq_getElem (show i<m.length by omega))
  rw [List.drop_eq_getElem_cons (by omega),List.getElem_zip] at hinv
  rw [e0]
  refine ⟨trivial,a,_,c,hle1.ld h0,⟨by omega,by omega⟩,b0,o0,ha,_,_,_,r0,b,_,d,hle1.ld h1,⟨by omega,by omega⟩,b1,o1,hb,_,_,_,r1,(hstep _ _ _ _ hinv).post fun v H3 hv=>?_⟩
  rcases hv with ⟨rfl,hv⟩ | ⟨rfl,hv⟩
  ·exact ⟨true,rfl,trivial,fun h=>(by cases h),fun _=>⟨min l.length m.length-(i+1),by omega,rfl,rfl,rfl,rfl,rfl,rfl,rfl,rfl,i+1,by rw [wrap64 (by omega) (by omega)]; omega,by omega,rfl,hv⟩⟩
  ·exact ⟨false,rfl,trivial,fun _=>hv,fun h=>by cases h⟩
 ·have hge:i=min l.length m.length:=by have:=of_decide_eq_false hge; omega
  rw [List.drop_eq_nil_of_le (by omega)] at hinv
  exact hend _ hinv
theorem c67 {kb ko k1b k1o:Nat} {a b:OA} {c d:Nat} {l m:List Tok3} {H:KH} (hl:kold H 3 a l.length=some (tkC l)) (hm:kold H 3 b m.length=some (tkC m))
 (h0:ld H ⟨kb,ko,none⟩ [.slice a l.length c]) (h1:ld H ⟨k1b,k1o,none⟩ [.slice b m.length d]) (hs:l.length≤1000000) (hs':m.length≤1000000) :
 Tells Tryz.prog 67 [.pointer (some ⟨kb,ko,none⟩),.pointer (some ⟨k1b,k1o,none⟩)] (l.reverse.zip m.reverse) H:=by
 intro y Inv H0 Q hle hstep hend hinv0
 have hz:(l.reverse.zip m.reverse).length=min l.length m.length:=by rw [List.length_zip,List.length_reverse,List.length_reverse]
 have g0:=hle _ _ hinv0
 refine fn67 ok ⟨a,_,c,g0.ld h0,b,_,d,g0.ld h1,?_⟩
 unfold vc67_L1
 refine ⟨fun n n4 n5 n6 n7 n8 x9 x10 H11=>n4=y∧n5=kb∧n6=ko∧n7=k1b∧n8=k1o∧x9=((min l.length m.length:Nat):Int)∧∃ i:Nat,x10=i∧i≤min l.length m.length∧n=min l.length m.length-i∧Inv ((l.reverse.zip m.reverse).drop i) H11,⟨_,rfl,rfl,rfl,rfl,rfl,rfl,rfl,by omega,0,rfl,by omega,rfl,hinv0⟩,?_⟩
 rintro n n4 n5 n6 n7 n8 x9 x10 H11 ⟨rfl,rfl,rfl,rfl,rfl,rfl,i,rfl,hi,rfl,hinv⟩
 refine ⟨fun hlt=>?_,fun hge=>?_⟩
 ·have hlt:i<min l.length m.length:=by have:=of_decide_eq_true hlt; omega
  have wl:IntKind.wrap .i64 (IntKind.wrap .i64 (((l.length:Nat):Int)-1)-((i:Nat):Int))=((l.length-1-i:Nat):Int):=by
   rw [wrap64 (x:=((l.length:Nat):Int)-1) (by omega) (by omega),wrap64 (by omega) (by omega)]; omega
  have wm:IntKind.wrap .i64 (IntKind.wrap .i64 (((m.length:Nat):Int)-1)-((i:Nat):Int))=((m.length-1-i:Nat):Int):=by
   rw [wrap64 (x:=((m.length:Nat):Int)-1) (by omega) (by omega),wrap64 (by omega) (by omega)]; omega
  have hle1:=hle _ _ hinv
  obtain ⟨b0,o0,ha,r0⟩:=tk_ld3 (hle1.kold hl) (List.getElem?_eq_getElem (show l.length-1-i<l.length by omega))
  obtain ⟨b1,o1,hb,r1⟩:=tk_ld3 (hle1.kold hm) (List.getElem?_eq_getElem (show m.length-1-i<m.length by omega))
  rw [List.drop_eq_getElem_cons (by omega),List.getElem_zip,List.getElem_reverse,List.getElem_reverse] at hinv
  refine ⟨trivial,a,_,c,hle1.ld h0,a,_,c,hle1.ld h0,?_⟩
  rw [wl,Int.toNat_natCast]
  refine ⟨⟨by omega,by omega⟩,b0,o0,ha,_,_,_,r0,b,_,d,hle1.ld h1,b,_,d,hle1.ld h1,?_⟩
  rw [wm,Int.toNat_natCast]
  refine ⟨⟨by omega,by omega⟩,b1,o1,hb,_,_,_,r1,(hstep _ _ _ _ hinv).post fun v H3 hv=>?_⟩
  rcases hv with ⟨rfl,hv⟩ | ⟨rfl,hv⟩
  ·exact ⟨true,rfl,trivial,fun h=>(by cases h),fun _=>⟨min l.length m.length-(i+1),by omega,rfl,rfl,rfl,rfl,rfl,rfl,rfl,rfl,i+1,by rw [wrap64 (by omega) (by omega)]; omega,by omega,rfl,hv⟩⟩
  ·exact ⟨false,rfl,trivial,fun _=>hv,fun h=>by cases h⟩
 ·have hge:i=min l.length m.length:=by have:=of_decide_eq_false hge; omega
  rw [List.drop_eq_nil_of_le (by omega)] at hinv
  exact hend _ hinv
end
end Va
end Go.Proofs.YtfhjkkbaghanhaaGreat
set_option linter.unusedVariables false
set_option linter.unusedSimpArgs false
namespace Go.Proofs.YtfhjkkbaghanhaaGreat
open Go.Ev Go.Ew
namespace Va
section
variable (ok : EnvOk (env Tryz.prog))
include ok
theorem c41 {was is:ByteArray} {mv:Int} {g:Nat} {k:List Value} {ps:List (Tok3 × Tok3)} {H:KH} {Q:PQ} (hwas:was.size≤1000000) (his:is.size≤1000000) (hm : -1000000≤mv∧mv≤1000000)
 (hin:FnIn (env Tryz.prog) g) (hp:∀ x∈ps,InT was.size x.1∧InT is.size x.2) (hlen:ps.length≤1000000) (ht:Tells Tryz.prog g k ps H)
 (hq:∀ H',Le H H'→Q (.int .i64 ((stayM was is mv ps:Nat):Int)) H'):Does (env Tryz.prog) 41 [.agg #[.string was,.string is],.func (.func g) #[] k.toArray,.int .i64 mv] H Q:=by
 refine fn41 ok fun n1 h1 n2 h2 n3 h3=>⟨⟨[.int .i64 0],rfl,⟨rfl,_,if_pos rfl,rd_mk [.int .i64 0] 0⟩⟩,⟨⟨_,if_pos rfl,rfl⟩⟩,hin,fun n6 L7 h6 hR=>?_⟩
 have n21:n2≠n1:=fun z=>by subst z; simp [KH.new] at h2
 have n32:n3≠n2:=fun z=>by subst z; simp [KH.new] at h3
 have n31:n3≠n1:=fun z=>by subst z; simp [KH.new,n21.symm] at h3
 have hH2:H n2=none:=by simpa [KH.new,n21] using h2
 have hH3:H n3=none:=by simpa [KH.new,n32,n31] using h3
 have p3:((((H.new n1 (mkEnt (Array.toList #[Value.string was,Value.string is]) 0)).new n2 (mkEnt [.int .i64 mv] 0)).new n3 (mkEnt [.int .i64 0] 0)).put ⟨n3,0,none⟩ [.int .i64 0]) n3=some ⟨wr (mkEnt [.int .i64 0] 0).cells 0 [.int .i64 0],1,0,none⟩:=by
  simp only [KH.put,KH.new,if_true,Option.map_some]; rfl
 have n63:n6≠n3:=fun z=>by rw [z,p3] at h6; cases h6
 have n62:n6≠n2:=fun z=>by subst z; simp [KH.put,KH.new,n32.symm] at h6
 have n61:n6≠n1:=fun z=>by subst z; simp [KH.put,KH.new,n31.symm,n21.symm] at h6
 have hH6:H n6=none:=by simpa [KH.put,KH.new,n63,n62,n61] using h6
 let Base:KH:=(H.new n1 (mkEnt [.string was,.string is] 0)).new n2 (mkEnt [.int .i64 mv] 0)
 have hBase:Le H Base:=(Le.new h1).trans (Le.new h2)
 have hB1:Base n1=some (mkEnt [.string was,.string is] 0):=by simp only [Base,KH.new]; rw [if_neg n21.symm]; exact if_pos trivial
 have hB2:Base n2=some (mkEnt [.int .i64 mv] 0):=if_pos rfl
 have hB3:Base n3=none:=by simp only [Base,KH.new]; rw [if_neg n32,if_neg n31]; exact hH3
 have hB6:Base n6=none:=by simp only [Base,KH.new]; rw [if_neg n62,if_neg n61]; exact hH6
 have lits:∀ {cs:List Value} {K:KH} {n:Nat},K n=some (mkEnt cs 0)→ld K ⟨n,0,none⟩ cs:=fun {cs K n} hk=>⟨rfl,_,hk,rd_mk cs 0⟩
 have hdel:∀ (K:KH) q e,q≠n6→K q=some e→(K.del n6) q=some e:=fun K q e z1 z2=>by simp only [KH.del]; rw [if_neg z1]; exact z2
 have hDel:∀ {K:KH},Le Base K→Le Base (K.del n6):=fun {K} h q e z=>hdel K q e (fun y=>by rw [y,hB6] at z; cases z) (h q e z)
 have hNew:∀ {K:KH} {e':Ent},Le Base K→Le Base (K.new n6 e'):=fun {K e'} h q e z=>by simp only [KH.new]; rw [if_neg (fun y=>by rw [y,hB6] at z; cases z)]; exact h q e z
 let Inv:List (Tok3 × Tok3)→KH→Prop:=fun r H1=>H1 n6=some (lpE L7 0 none)∧Le Base H1∧(∀ x∈r,x∈ps)∧∃ cnt:Nat,cnt+r.length=ps.length∧cnt+stayM was is mv r=stayM was is mv ps∧∃ e,H1 n3=some e∧wrB e=true∧rd e.cells 0 1=some [.int .i64 ((cnt:Nat):Int)]
 refine ht n6 Inv _ _ (fun r H1 hi=>hBase.trans hi.2.1) (fun o w r H1 hi=>?_) (fun H1 hi=>?_) ?_
 ·obtain ⟨g1,g2,g3,cnt,g4,g5,e,e1,e2,e3⟩:=hi
  obtain ⟨ho,hw⟩:=hp (o,w) (g3 _ List.mem_cons_self)
  have hc3:ld (H1.del n6) ⟨n3,0,none⟩ [.int .i64 ((cnt:Nat):Int)]:=⟨rfl,e,hdel _ _ _ n63.symm e1,e3⟩
  have hll:cnt+1≤1000000:=by simp only [List.length_cons] at g4; omega
  have hstay:=stayM_le was is mv r
  refine hR o.1 ((o.2.1:Nat):Int) o.2.2 w.1 ((w.2.1:Nat):Int) w.2.2 H1 _ g1 ⟨was,is,lits (hDel g2 _ _ hB1),mv,lits (hDel g2 _ _ hB2),c65 ok hwas his ho hw hm ⟨_,rfl,fun hs h6'=>?_,fun hs=>?_⟩⟩
  ·have hs:sameM was is mv o w=false:=by simpa using hs
   have hz:stayM was is mv ((o,w) :: r)=0:=by unfold stayM; rw [if_neg (by rw [hs]; simp)]
   rw [hz] at g5
   refine .inr ⟨rfl,.inr (.inr ⟨if_pos rfl,_,⟨rfl,e,?_,e3⟩,?_⟩)⟩
   ·simp only [KH.del,KH.new]; rw [if_neg n63.symm,if_neg n63.symm,if_neg n63.symm]; exact e1
   ·have:cnt=stayM was is mv ps:=by omega
    rw [this]
    exact hq _ (hBase.trans (hDel (hNew (hDel g2))))
  ·have hs:sameM was is mv o w=true:=by simpa using hs
   have hz:stayM was is mv ((o,w) :: r)=stayM was is mv r+1:=by conv=>lhs; unfold stayM; rw [if_pos hs]
   rw [hz] at g5
   refine ⟨_,hc3,⟨[.int .i64 ((cnt:Nat):Int)],rfl,hc3⟩,⟨⟨e,hdel _ _ _ n63.symm e1,e2⟩⟩,fun h6'=>.inl ⟨rfl,if_pos rfl,?_,fun x hx=>g3 x (List.mem_cons_of_mem _ hx),cnt+1,by simp only [List.length_cons] at g4; omega,by omega,⟨wr e.cells 0 [.int .i64 ((cnt+1:Nat):Int)],e.len,e.unk,none⟩,?_,wrB_keep e2,?_⟩⟩
   ·refine hNew fun q e' z=>?_
    exact put_ne (fun y=>by rw [show q=n3 from y,hB3] at z; cases z) (hDel g2 q e' z)
   ·have hw1:IntKind.wrap .i64 (((cnt:Nat):Int)+1)=((cnt+1:Nat):Int):=by rw [wrap64 (by omega) (by omega)]; omega
    rw [hw1]
    simp only [KH.new]
    rw [if_neg n63.symm]
    simp only [KH.put,if_true,hdel _ _ _ n63.symm e1,Option.map_some]
   ·have:=rdWr (e:=e.cells) (N:=1) (o:=0) (xs:=[]) (ys:=[.int .i64 ((cnt:Nat):Int)]) (zs:=[]) (vs:=[.int .i64 ((cnt+1:Nat):Int)]) (by simpa using e3) rfl rfl
    simpa using this
 ·obtain ⟨g1,g2,g3,cnt,g4,g5,e,e1,e2,e3⟩:=hi
  refine .inl ⟨g1,_,⟨rfl,e,hdel _ _ _ n63.symm e1,e3⟩,?_⟩
  have:cnt=stayM was is mv ps:=by simpa [stayM] using g5
  rw [this]
  exact hq _ (hBase.trans (hDel g2))
 ·refine ⟨if_pos rfl,hNew fun q e z=>?_,fun x hx=>hx,0,by omega,by omega,⟨wr (mkEnt [.int .i64 0] 0).cells 0 [.int .i64 0],1,0,none⟩,?_,rfl,?_⟩
  ·exact put_ne (fun y=>by rw [show q=n3 from y,hB3] at z; cases z) (by simp only [KH.new]; rw [if_neg (fun y=>by rw [y,hB3] at z; cases z)]; exact z)
  ·simp only [KH.new]; rw [if_neg n63.symm]; exact p3
  ·rfl
end
end Va
end Go.Proofs.YtfhjkkbaghanhaaGreat
set_option linter.unusedVariables false
set_option linter.unusedSimpArgs false
namespace Go.Ew
open Go.Ev Go.Deep
theorem TkR.mono {H H':KH} {rs:List ByteArray} {a:OA} (h:TkR H rs a) (hl:Le H H'):TkR H' rs a:=by
 obtain ⟨cs,h1,h2⟩:=h
 exact ⟨cs,hl.kold h1,h2⟩
def StOk (N:Nat) (st:Int × Int × Bool):Prop:=st.2.2=true→∃ n:Nat,st.2.1=((n:Nat):Int)∧1≤n∧n≤N
theorem lg_len {g:Nat→Int} {L:Nat} {s:ByteArray} (hs:s.size≤1000000):∀ (f i p:Nat) (st:Int × Int × Bool),i+f=s.size→StOk s.size st→StOk s.size (lg g L s f i p st)
 | 0,_,_,st,_,h=>h
 | f+1,i,p,st,hi,h=>by
   unfold lg
   split
   ·exact h
   ·split
    ·exact h
    ·refine lg_len hs f (i+1) _ _ (by omega) ?_
     split
     ·exact fun _=>⟨i+1,by show IntKind.wrap .i64 _=_; rw [wrap64 (by omega) (by omega)]; omega,by omega,by omega⟩
     ·exact h
theorem fst_len {g:Nat→Int} {L:Nat} {w:ByteArray} (hs:w.size≤1000000) (h0:0<w.size):∃ n:Nat,(fstM g L w).2=((n:Nat):Int)∧1≤n∧n≤w.size:=by
 have h:StOk w.size (lgR g L w):=by
  unfold lgR
  split
  ·exact fun q=>by cases q
  ·exact lg_len hs _ _ _ _ (by omega) fun q=>by cases q
 unfold fstM
 split
 ·rename_i q
  exact h q
 ·exact ⟨1,rfl,by omega,by omega⟩
theorem splT_size {s p:ByteArray} {a n:Nat} (h:a+n≤s.size):(splT s a n p).size≤s.size+p.size:=by
 have e1:s.data.toList.length=s.size:=by rw [Array.length_toList]; rfl
 have e2:p.data.toList.length=p.size:=by rw [Array.length_toList]; rfl
 show (splT s a n p).data.size≤_
 unfold splT
 simp only [List.size_toArray,List.length_append,List.length_take,List.length_drop,e1,e2]
 omega
theorem splT_back {s:ByteArray} {a n:Nat}:splT s a n (strCut s ((a:Nat):Int) (((a:Nat):Int)+((n:Nat):Int)))=s:=by
 unfold splT strCut
 have e:(((a:Nat):Int)+((n:Nat):Int)).toNat=a+n:=by omega
 rw [e,Int.toNat_natCast]
 apply ByteArray.ext
 apply Array.toList_inj.1
 simp only [ByteArray.data_extract,Array.toList_extract]
 rw [List.extract_eq_take_drop,List.append_assoc]
 have h1:a+n-a=n:=by omega
 rw [h1,← List.drop_drop,List.take_append_drop,List.take_append_drop]
theorem Tks.uniq {F:Nat→Int × Int} {N:Nat}:∀ {i:Nat} {r r':List (Int × Nat × Int)},Tks F N i r→Tks F N i r'→r=r'
 | _,_,_,.nil,.nil=>rfl
 | _,_,_,.nil,.cons h1 _ _ _ _=>by omega
 | _,_,_,.cons h1 _ _ _ _,.nil=>by omega
 | _,_,_,.cons h1 h2 h3 h4 hr,.cons k1 k2 k3 k4 kr=>by
   rename_i n r n' r'
   have e:n=n':=by omega
   subst e
   rw [Tks.uniq hr kr]
theorem Tks.inT {F:Nat→Int × Int} {N:Nat}:∀ {i:Nat} {r:List (Int × Nat × Int)},Tks F N i r→∀ x∈r,InT N x
 | _,_,.nil=>fun x hx=>by cases hx
 | _,_,.cons h1 h2 h3 h4 hr=>fun x hx=>by
   rcases List.mem_cons.1 hx with rfl | hx
   ·exact ⟨by show (0:Int)≤((_:Nat):Int); omega,by dsimp only; omega⟩
   ·exact hr.inT x hx
theorem same_self (s:ByteArray) (x:Tok3):sameM s s 0 x x=true:=by
 unfold sameM
 have:strEq (cutT s x) (cutT s x)=true:=strEq_iff.2 rfl
 rw [this]
 simp
theorem stay_self (s:ByteArray):∀ l:List Tok3,stayM s s 0 (l.zip l)=l.length
 | []=>rfl
 | x :: r=>by
   have:=stay_self s r
   simp only [List.zip_cons_cons,stayM,same_self,if_true,this,List.length_cons]
theorem kept_self (s:ByteArray) (l:List Tok3):keptM s s l l=l.length:=by
 unfold keptM frontM endT
 rw [stay_self,List.drop_length]
 rfl
end Go.Ew
namespace Go.Proofs.YtfhjkkbaghanhaaGreat
open Go.Ev Go.Ew
namespace Va
section
variable (ok : EnvOk (env Tryz.prog))
include ok
theorem c27 {was is:ByteArray} {a b:OA} {c d:Nat} {l m:List Tok3} {H:KH} {Q:PQ} (hwas:was.size≤1000000) (his:is.size≤1000000) (hl:kold H 3 a l.length=some (tkC l)) (hm:kold H 3 b m.length=some (tkC m))
 (hol:SlOk H 3 a l.length c) (hom:SlOk H 3 b m.length d) (il:∀ x∈l,InT was.size x) (im:∀ x∈m,InT is.size x) (sl:l.length≤100000) (sm:m.length≤100000)
 (hq:∀ H',Le H H'→Q (.int .i64 ((keptM was is l m:Nat):Int)) H'):Does (env Tryz.prog) 27 [.agg #[.string was,.string is],.slice a l.length c,.slice b m.length d] H Q:=by
 have lits:∀ {cs:List Value} {K:KH} {n:Nat},K n=some (mkEnt cs 0)→ld K ⟨n,0,none⟩ cs:=fun {cs K n} hk=>⟨rfl,_,hk,rd_mk cs 0⟩
 have news:∀ {K:KH} {n1 n2:Nat} {e1 e2:Ent},K n1=none→(K.new n1 e1) n2=none→((K.new n1 e1).new n2 e2) n1=some e1∧((K.new n1 e1).new n2 e2) n2=some e2:=fun {K n1 n2 e1 e2} h1 h2=>by
  have:n2≠n1:=fun z=>by subst z; simp [KH.new] at h2
  exact ⟨by simp only [KH.new]; rw [if_neg this.symm]; exact if_pos trivial,if_pos rfl⟩
 refine fn27 ok ⟨trivial,fn42 ok fun n1 h1 n2 h2=>⟨66,[.pointer (some ⟨n1,0,none⟩),.pointer (some ⟨n2,0,none⟩)],rfl,⟨rfl,trivial⟩,?_⟩⟩
 have l2:=(Le.new (e:=mkEnt [.slice a l.length c] 0) h1).trans (Le.new (e:=mkEnt [.slice b m.length d] 0) h2)
 obtain ⟨m1,m2⟩:=news (e1:=mkEnt [.slice a l.length c] 0) (e2:=mkEnt [.slice b m.length d] 0) h1 h2
 have hzl:∀ {p q:List Tok3},(p.zip q).length≤p.length:=fun {p q}=>by rw [List.length_zip]; omega
 refine c41 ok hwas his (by omega) ⟨(by kernel_rfl)⟩ (fun x hx=>⟨il _ (List.of_mem_zip hx).1,im _ (List.of_mem_zip hx).2⟩) (by have:=hzl (p:=l) (q:=m); omega)
  (c66 ok (l2.kold hl) (l2.kold hm) (lits m1) (lits m2) (by omega)) fun H6 hl6=>⟨_,rfl,trivial,trivial,?_⟩
 have l6:=l2.trans hl6
 have hf:stayM was is 0 (l.zip m)≤min l.length m.length:=by have:=stayM_le was is 0 (l.zip m); rw [List.length_zip] at this; exact this
 have hfe:frontM was is l m=stayM was is 0 (l.zip m):=rfl
 generalize hg:stayM was is 0 (l.zip m)=f at hf hfe
 obtain ⟨a',c',e1,e2⟩:=cut_hi (hol.mono l6) (l6.kold hl) (show f≤l.length by omega)
 obtain ⟨b',d',e3,e4⟩:=cut_hi (hom.mono l6) (l6.kold hm) (show f≤m.length by omega)
 rw [tkC_drop] at e2 e4
 rw [← List.length_drop] at e1 e2 e3 e4
 refine ⟨a',_,c',e1,b',_,d',e3,fn43 ok fun k1 g1 k2 g2=>⟨67,[.pointer (some ⟨k1,0,none⟩),.pointer (some ⟨k2,0,none⟩)],rfl,⟨rfl,⟨rfl,rfl⟩,rfl,rfl,⟨rfl,rfl⟩,rfl,rfl,rfl,trivial⟩,?_⟩⟩
 have l7:=(Le.new (e:=mkEnt [.slice a' (l.drop f).length c'] 0) g1).trans (Le.new (e:=mkEnt [.slice b' (m.drop f).length d'] 0) g2)
 obtain ⟨q1,q2⟩:=news (e1:=mkEnt [.slice a' (l.drop f).length c'] 0) (e2:=mkEnt [.slice b' (m.drop f).length d'] 0) g1 g2
 have w1:IntKind.wrap .i64 (((is.size:Nat):Int)-((was.size:Nat):Int))=((is.size:Nat):Int)-((was.size:Nat):Int):=wrap64 (by omega) (by omega)
 rw [w1]
 refine c41 ok hwas his (by omega) ⟨(by kernel_rfl)⟩ (fun x hx=>⟨il _ (List.mem_of_mem_drop (List.mem_reverse.1 (List.of_mem_zip hx).1)),im _ (List.mem_of_mem_drop (List.mem_reverse.1 (List.of_mem_zip hx).2))⟩) (by have:=hzl (p:=(l.drop f).reverse) (q:=(m.drop f).reverse); simp only [List.length_reverse,List.length_drop] at this; omega)
  (c67 ok (l7.kold e2) (l7.kold e4) (lits q1) (lits q2) (by rw [List.length_drop]; omega) (by rw [List.length_drop]; omega)) fun H8 hl8=>⟨_,rfl,trivial,?_⟩
 have hk:keptM was is l m=f+stayM was is (((is.size:Nat):Int)-((was.size:Nat):Int)) ((l.drop f).reverse.zip (m.drop f).reverse):=by unfold keptM endT; rw [hfe]
 have hle:=stayM_le was is (((is.size:Nat):Int)-((was.size:Nat):Int)) ((l.drop f).reverse.zip (m.drop f).reverse)
 have hle2:=hzl (p:=(l.drop f).reverse) (q:=(m.drop f).reverse)
 rw [List.length_reverse,List.length_drop] at hle2
 rw [wrap64 (by omega) (by omega)]
 have:=hq H8 (l6.trans (l7.trans hl8))
 rw [hk] at this
 rw [Int.natCast_add] at this
 exact this
theorem c13 {ra b:OA} {L rc d:Nat} {g:Nat→Int} {s p:ByteArray} {x n:Nat} {l:List Tok3} {H:KH} {Q:PQ} (hI:IC H ra (L*257) g) (hx:x+n≤s.size) (hs:s.size≤1000) (hp:p.size≤1000)
 (hF:∀ i,i<(splT s x n p).size→∃ k:Nat,(fstM g L (fromB (splT s x n p) i)).2=((k:Nat):Int)∧1≤k∧i+k≤(splT s x n p).size)
 (hl:kold H 3 b l.length=some (tkC l)) (hol:SlOk H 3 b l.length d) (il:∀ y∈l,InT s.size y) (sl:l.length≤100000)
 (hq:∀ m a' c' H',Tks (fun i=>fstM g L (fromB (splT s x n p) i)) (splT s x n p).size 0 m→Le H H'→kold H' 3 a' m.length=some (tkC m)→Q (.tuple #[.string (splT s x n p),.slice a' m.length c',.int .i64 ((keptM s (splT s x n p) l m:Nat):Int),.bool true]) H') :
 Does (env Tryz.prog) 13 [.slice ra L rc,.string s,.slice b l.length d,.agg #[.int .i64 ((x:Nat):Int),.int .i64 ((n:Nat):Int),.string p]] H Q:=by
 have hb:splB s ((x:Nat):Int) ((n:Nat):Int) p=true:=by
  unfold splB
  simp only [Bool.and_eq_true,decide_eq_true_eq,Nat.ble_eq]
  omega
 have hsz:=splT_size (p:=p) hx
 refine fn13 ok (c25 ok (by omega) (by omega) ⟨_,rfl,fun h=>?_,fun _=>does_spl (by kernel_rfl) (by kernel_rfl) (by kernel_rfl) hb ⟨_,rfl,?_⟩⟩)
 ·rw [decide_eq_true (by omega)] at h; cases h
 rw [Int.toNat_natCast,Int.toNat_natCast]
 refine c17 ok hI (by omega) hF fun m a' c' ex H5 ht hle hG=>⟨_,_,_,rfl,?_⟩
 have:=ht.len
 exact c27 ok (by omega) (by omega) (hle.kold hl) hG.row (hol.mono hle) (hG.slok (by omega)) il ht.inT sl (by omega) fun H10 hl10=>⟨_,rfl,hq m a' c' H10 ht (hle.trans hl10) (hl10.kold hG.row)⟩
theorem c15 {a b:OA} {c d:Nat} {l m:List Tok3} {H:KH} {Q:PQ} (hl:kold H 3 a l.length=some (tkC l)) (hm:kold H 3 b m.length=some (tkC m)) (sl:l.length≤1000000)
 (hq:Q (.bool (decide (l=m))) H):Does (env Tryz.prog) 15 [.slice a l.length c,.slice b m.length d] H Q:=by
 refine fn15 ok ⟨fun h=>?_,fun h=>?_⟩
 ·have h:=of_decide_eq_true h
  rw [decide_eq_false (fun z=>h (by rw [z]))] at hq
  exact hq
 have hlen:l.length=m.length:=by have:=of_decide_eq_false h; omega
 unfold vc15_L1
 refine ⟨fun n a4 n5 n6 a7 n8 n9 x10 H11=>a4=a∧n5=l.length∧a7=b∧n8=m.length∧H11=H∧∃ i:Nat,x10=i∧i≤l.length∧n=l.length-i∧decide (l=m)=decide (l.drop i=m.drop i),⟨_,rfl,rfl,rfl,rfl,rfl,0,rfl,by omega,rfl,by simp⟩,?_⟩
 rintro n a4 n5 n6 a7 n8 n9 x10 H11 ⟨rfl,rfl,rfl,rfl,rfl,i,rfl,hi,rfl,hd⟩
 refine ⟨fun hlt=>?_,fun hge=>?_⟩
 ·have hlt:i<l.length:=by have:=of_decide_eq_true hlt; omega
  have e0:Int.toNat ((i:Nat):Int)=i:=by omega
  obtain ⟨b0,o0,ha,r0⟩:=tk_ld3 hl (List.getElem?_eq_getElem hlt)
  obtain ⟨b1,o1,hb,r1⟩:=tk_ld3 hm (List.getElem?_eq_getElem (show i<m.length by omega))
  have hd':decide (l.drop i=m.drop i)=(decide (l[i]=m[i])&&decide (l.drop (i+1)=m.drop (i+1))):=by
   rw [List.drop_eq_getElem_cons hlt,List.drop_eq_getElem_cons (show i<m.length by omega),← Bool.decide_and]
   exact decide_eq_decide.2 (Iff.of_eq (List.cons.injEq _ _ _ _))
  have hx:decide (l[i]=m[i])=(decide ((l[i]).1=(m[i]).1)&&(decide (((l[i]).2.1:Int)=((m[i]).2.1:Int))&&(decide ((l[i]).2.2=(m[i]).2.2)&&true))):=by
   rw [Bool.and_true,← Bool.decide_and,← Bool.decide_and]
   exact decide_eq_decide.2 ⟨fun h=>by rw [h]; exact ⟨rfl,rfl,rfl⟩,fun ⟨h1,h2,h3⟩=>Prod.ext h1 (Prod.ext (by omega) h3)⟩
  rw [e0]
  refine ⟨trivial,⟨by omega,by omega⟩,b0,o0,ha,_,_,_,r0,⟨by omega,by omega⟩,b1,o1,hb,_,_,_,r1,fun h=>?_,fun h=>⟨l.length-(i+1),by omega,rfl,rfl,rfl,rfl,rfl,i+1,by rw [wrap64 (by omega) (by omega)]; omega,by omega,rfl,?_⟩⟩
  ·rw [← hx] at h
   have h:decide (l[i]=m[i])=false:=by simpa using h
   rw [hd,hd',h] at hq
   exact hq
  ·rw [← hx] at h
   have h:decide (l[i]=m[i])=true:=by simpa using h
   rw [hd,hd',h,Bool.true_and]
 ·have hge:i=l.length:=by have:=of_decide_eq_false hge; omega
  rw [hd,hge,List.drop_length,hlen,List.drop_length] at hq
  exact hq
end
end Va
end Go.Proofs.YtfhjkkbaghanhaaGreat
set_option linter.unusedVariables false
set_option linter.unusedSimpArgs false
namespace Go.Proofs.YtfhjkkbaghanhaaGreat
open Go.Ev Go.Ew
namespace Va
section
variable (ok : EnvOk (env Tryz.prog))
include ok
omit ok in
theorem c5 {H:KH} {Q:PQ} (hq:Q (.bool true) H):Does (env Tryz.prog) 5 [] H Q:=does_true (by kernel_rfl) (by kernel_rfl) (by kernel_rfl) hq
theorem c4 {a b:OA} {n m c d:Nat} {x y:Nat} {H:KH} (h0:U8 H a n) (h1:U8 H b m) (hx:x≤255) (hy:y≤255):Does (env Tryz.prog) 4 [.slice a n c,.slice b m d,.int .u8 ((x:Nat):Int),.int .u8 ((y:Nat):Int)] H fun v _=>v = .bool true:=by
 refine fn4 ok (c5 ⟨true,rfl,fun h=>(by cases h),fun _=>⟨fun _=>rfl,fun l0=>⟨fun _=>rfl,fun l1=>?_⟩⟩⟩)
 have l0:n≤60:=by have:=of_decide_eq_false l0; omega
 have l1:m≤30:=by have:=of_decide_eq_false l1; omega
 refine c6 ok h0 (by omega) fun p H2 hp=>⟨p,0,rfl,c7 ok hp fun rs ta tc H6 hrl hrp hl6 htk=>⟨_,_,_,rfl,c8 ok (h1.mono hl6) (by omega) fun s H11 hsz _ hl11=>⟨s,rfl,?_⟩⟩⟩
 have htk11:=htk.mono hl11
 refine c18g ok htk11 (by omega) (fun pats a' c' X H14 cs hE hHX hX hG hP _=>⟨_,_,_,_,rfl,?_⟩) fun ⟨t,ht,hn⟩=>by obtain ⟨l,hl⟩:=hrp t ht; rw [hl] at hn; cases hn
 have hlen:=hE.len
 have hPR:PtR H14 pats a':=⟨cs,hG.row,hP.mono hX⟩
 have htk14:=htk11.mono (hHX.trans hX)
 refine c10 ok htk14 (by omega) (fun pats2 ra rc ts g H20 hE2 hl20 hI hks hC=>⟨_,_,_,_,rfl,fun q=>(by cases q),fun _=>?_⟩) (fun pats2 H20 hE2 hl20 hmany=>⟨_,_,_,_,rfl,fun _=>?_,fun q=>by cases q⟩) fun ⟨t,ht,hn⟩=>by obtain ⟨l,hl⟩:=hrp t ht; rw [hl] at hn; cases hn
 ·have hpp:=hE2.same hE
  subst hpp
  have hpar:=hE.par
  have hF:∀ i,i<s.size→∃ n:Nat,(fstM g ts.length (fromB s i)).2=((n:Nat):Int)∧1≤n∧i+n≤s.size:=fun i hi=>by
   have hsi:=fromB_size (s:=s) (i:=i) (by omega)
   obtain ⟨n,q1,q2,q3⟩:=fst_len (g:=g) (L:=ts.length) (w:=fromB s i) (by omega) (by omega)
   exact ⟨n,q1,q2,by omega⟩
  have w1:IntKind.wrap .i64 (((s.size:Nat):Int)+1)=((s.size+1:Nat):Int):=by rw [wrap64 (by omega) (by omega)]; omega
  have wx:IntKind.wrap .i64 ((x:Nat):Int)=((x:Nat):Int):=wrap64 (by omega) (by omega)
  have wy:IntKind.wrap .i64 ((y:Nat):Int)=((y:Nat):Int):=wrap64 (by omega) (by omega)
  rw [w1,wx,wy]
  obtain ⟨u,hu,hus⟩:∃ u:Nat,Int.tmod ((x:Nat):Int) ((s.size+1:Nat):Int)=((u:Nat):Int)∧u≤s.size:=by
   refine ⟨x%(s.size+1),?_,?_⟩
   ·exact (Int.ofNat_tmod _ _).symm
   ·have:=Nat.mod_lt x (show 0<s.size+1 by omega); omega
  rw [hu]
  have w2:IntKind.wrap .i64 (IntKind.wrap .i64 (((s.size:Nat):Int)-((u:Nat):Int))+1)=((s.size-u+1:Nat):Int):=by
   rw [wrap64 (x:=((s.size:Nat):Int)-((u:Nat):Int)) (by omega) (by omega),wrap64 (by omega) (by omega)]; omega
  rw [w2]
  obtain ⟨v,hv,hvs⟩:∃ v:Nat,Int.tmod ((y:Nat):Int) ((s.size-u+1:Nat):Int)=((v:Nat):Int)∧v≤s.size-u:=by
   refine ⟨y%(s.size-u+1),?_,?_⟩
   ·exact (Int.ofNat_tmod _ _).symm
   ·have:=Nat.mod_lt y (show 0<s.size-u+1 by omega); omega
  rw [hv]
  have w3:IntKind.wrap .i64 (((u:Nat):Int)+((v:Nat):Int))=((u:Nat):Int)+((v:Nat):Int):=wrap64 (by omega) (by omega)
  rw [w3]
  refine ⟨by omega,by omega,c17 ok hI (by omega) hF fun l la lc ex H29 htl hl29 hGl=>⟨_,_,_,rfl,⟨by omega,by omega,by omega⟩,?_⟩⟩
  have hll:=htl.len
  have hbk:=splT_back (s:=s) (a:=u) (n:=v)
  refine c13 ok (hI.mono hl29) (x:=u) (n:=v) (by omega) (by omega) ?_ (by rw [hbk]; exact hF) hGl.row (hGl.slok (by omega)) htl.inT (by omega) fun mm a2 c2 H30 htm hl30 hrow=>⟨_,_,_,_,_,_,rfl,fun _=>⟨fun _=>⟨fun _=>?_,fun q=>?_⟩,fun q=>?_⟩,fun q=>by cases q⟩
  ·unfold strCut
   rw [ByteArray.size_extract]; omega
  ·rw [hbk] at htm
   have hml:=htl.uniq htm
   subst hml
   exact c15 ok (hl30.kold hGl.row) hrow (by omega) ⟨_,rfl,by rw [decide_eq_true rfl]⟩
  ·rw [hbk] at q htm
   have hml:=htl.uniq htm
   subst hml
   rw [kept_self] at q
   exact absurd rfl (of_decide_eq_false q)
  ·rw [hbk,strEq_iff.2 rfl] at q
   cases q
 ·refine c11 ok (hPR.mono hl20) (by omega) (few_len hE.par) ⟨_,rfl,?_⟩
  have hpp:=hE2.same hE
  subst hpp
  rw [decide_eq_false (by omega)]
  rfl
end
end Va
end Go.Proofs.YtfhjkkbaghanhaaGreat
