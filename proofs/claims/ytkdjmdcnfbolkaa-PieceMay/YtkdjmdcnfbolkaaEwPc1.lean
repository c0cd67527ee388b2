import Derived.Test.YtkdjmdcnfbolkaaEwS4
import Derived.Carry
import Derived.Test.YtkdjmdcnfbolkaaEwBd
import Derived.Test.YtkdjmdcnfbolkaaEvDraw4
set_option linter.unusedVariables false
set_option linter.unusedSimpArgs false
namespace Go.Ew
open Go.Ev Go.Deep
abbrev Pc:=Bool × Int × Int
def pcV (p:Pc):Value:=.agg #[.bool p.1,.int .i64 p.2.1,.int .i64 p.2.2]
def pcC (l:List Pc):List Value:=l.flatMap fun p=>[.bool p.1,.int .i64 p.2.1,.int .i64 p.2.2]
def srcP (o n:ByteArray) (p:Pc):ByteArray:=if p.1=true then n else o
def InP (o n:ByteArray) (p:Pc):Prop:=1<=p.2.2/\0<=p.2.1/\p.2.2+p.2.1<=(((srcP o n p).size:Nat):Int)
instance (o n:ByteArray) (p:Pc):Decidable (InP o n p):=by unfold InP; infer_instance
def thB (o n:ByteArray) (p:Pc):Bool:=decide (InP o n p)
def cutP (o n:ByteArray) (p:Pc):ByteArray:=strCut (srcP o n p) p.2.1 (p.2.1+p.2.2)
def txP (o n:ByteArray):List Pc->ByteArray
 | []=>⟨#[]⟩
 | p :: r=>cutP o n p++txP o n r
def lnP:List Pc->Int
 | []=>0
 | p :: r=>p.2.2+lnP r
def gdP (o n:ByteArray) (l:List Pc):List Pc:=l.filter (thB o n)
theorem pcC_get:∀ {l:List Pc} {i:Nat} {p:Pc},l[i]? = some p->((pcC l).drop (i*3)).take 3=[.bool p.1,.int .i64 p.2.1,.int .i64 p.2.2]
 | [],i,p,h=>by simp at h
 | q :: r,0,p,h=>by
   simp only [List.getElem?_cons_zero,Option.some.injEq] at h
   subst h
   simp [pcC]
 | q :: r,i+1,p,h=>by
   have:=pcC_get (l:=r) (i:=i) (p:=p) (by simpa using h)
   have e:(i+1)*3=i*3+1+1+1:=by omega
   simp only [pcC,List.flatMap_cons,List.cons_append,List.nil_append,e,List.drop_succ_cons]
   exact this
theorem pc_ld {H:KH} {a:OA} {l:List Pc} (h:kold H 3 a l.length=some (pcC l)) {i:Nat} {p:Pc} (hi:l[i]? = some p):∃ b o,a=some ⟨b,o,none⟩/\ld H ⟨b,o+i*3,none⟩ [.bool p.1,.int .i64 p.2.1,.int .i64 p.2.2]:=by
 have hl:i<l.length:=by
  rcases Nat.lt_or_ge i l.length with z | z
  .exact z
  .rw [List.getElem?_eq_none z] at hi; cases hi
 obtain ⟨b,o,e,r⟩:=rowAddr h (by omega)
 refine ⟨b,o,e,?_⟩
 have:=r (i*3) 3 (by omega)
 rw [pcC_get hi] at this
 exact this
theorem rd_wr1 {c:BT (Option Value)} {u v:Value} (h:rd c 0 1=some [u]):rd (wr c 0 [v]) 0 1=some [v]:=by
 have:=rdWr (e:=c) (N:=1) (o:=0) (xs:=[]) (ys:=[u]) (zs:=[]) (vs:=[v]) (by simpa using h) rfl rfl
 simpa using this
theorem ba_empty (t:ByteArray):(⟨#[]⟩:ByteArray)++t=t:=by
 apply ByteArray.ext
 apply Array.toList_inj.1
 rw [ByteArray.data_append,Array.toList_append]
 rfl
theorem ba_empty_r (t:ByteArray):t++(⟨#[]⟩:ByteArray)=t:=by
 apply ByteArray.ext
 apply Array.toList_inj.1
 rw [ByteArray.data_append,Array.toList_append]
 simp
theorem ba_assoc (a b c:ByteArray):a++b++c=a++(b++c):=by
 apply ByteArray.ext
 apply Array.toList_inj.1
 simp only [ByteArray.data_append,Array.toList_append,List.append_assoc]
theorem txP_app (o n:ByteArray):∀ l m:List Pc,txP o n (l++m)=txP o n l++txP o n m
 | [],m=>(ba_empty _).symm
 | p :: l,m=>by
   rw [List.cons_append]
   show cutP o n p++txP o n (l++m)=cutP o n p++txP o n l++txP o n m
   rw [txP_app o n l m,ba_assoc]
theorem lnP_app:∀ l m:List Pc,lnP (l++m)=lnP l+lnP m
 | [],m=>by simp [lnP]
 | p :: l,m=>by
   rw [List.cons_append]
   show p.2.2+lnP (l++m)=p.2.2+lnP l+lnP m
   rw [lnP_app l m]; omega
theorem cutP_size {o n:ByteArray} {p:Pc} (h:InP o n p):(((cutP o n p).size:Nat):Int)=p.2.2:=by
 obtain ⟨h1,h2,h3⟩:=h
 unfold cutP strCut
 rw [ByteArray.size_extract]
 omega
theorem gdP_in {o n:ByteArray} {l:List Pc} {p:Pc} (h:p∈gdP o n l):InP o n p:=by
 have:=(List.mem_filter.1 h).2
 exact of_decide_eq_true this
theorem lnP_nonneg {o n:ByteArray}:∀ {l:List Pc},(∀ p∈l,InP o n p)->0<=lnP l
 | [],_=>Int.le_refl _
 | p :: l,h=>by
   have h1:=(h p (by simp)).1
   have:=lnP_nonneg (l:=l) fun q hq=>h q (by simp [hq])
   show 0<=p.2.2+lnP l
   omega
theorem txP_size {o n:ByteArray}:∀ {l:List Pc},(∀ p∈l,InP o n p)->(((txP o n l).size:Nat):Int)=lnP l
 | [],_=>rfl
 | p :: l,h=>by
   have h1:=cutP_size (h p (by simp))
   have:=txP_size (l:=l) fun q hq=>h q (by simp [hq])
   show (((cutP o n p++txP o n l).size:Nat):Int)=p.2.2+lnP l
   rw [ByteArray.size_append]; omega
end Go.Ew
namespace Go.Proofs.Ytkdjmdcnfbolkaa
open Go.Ev Go.Ew
namespace Va
section
variable (ok : EnvOk (env Try.prog))
include ok
theorem c16 {p0 p1:Int} {N:Nat} {H:KH} {Q:PQ} (h0:p0<9223372036854775808) (hN:N<=1000000) (hq:Q (.bool (decide (0<=p0/\0<=p1/\p1+p0<=((N:Nat):Int)))) H):Does (env Try.prog) 16 [.int .i64 p0,.int .i64 p1,.int .i64 ((N:Nat):Int)] H Q:=by
 refine fn16 ok ⟨fun q0=>⟨fun q1=>?_,fun q1=>?_⟩,fun q0=>?_⟩
 .have q0:=of_decide_eq_true q0
  have q1:=of_decide_eq_true q1
  rw [wrap64 (by omega) (by omega)]
  have e:(decide (0<=p0/\0<=p1/\p1+p0<=((N:Nat):Int)))=decide (p1<=((N:Nat):Int)-p0):=decide_eq_decide.2 ⟨fun h=>by omega,fun h=>by omega⟩
  rw [e] at hq
  exact hq
 .have q1:=of_decide_eq_false q1
  rw [decide_eq_false (by omega)] at hq
  exact hq
 .have q0:=of_decide_eq_false q0
  rw [decide_eq_false (by omega)] at hq
  exact hq
omit ok in
theorem c22 {X H:KH} {nm:Nat} {s t:ByteArray} {Q:PQ} (hb:BdX 56 5 X H nm s) (hs:s.size<=1000000) (ht:t.size<=1000000) (hq:∀ H',BdX 56 5 X H' nm (s++t)->Q (.tuple #[.int .i64 ((t.size:Nat):Int),.nilIface]) H'):Does (env Try.prog) 22 [.pointer (some ⟨nm,0,none⟩),.string t] H Q :=
 does_write (by kernel_rfl) (by kernel_rfl) (by kernel_rfl) (by kernel_rfl) hb hs ht hq
omit ok in
theorem c24 {X H:KH} {nm:Nat} {s:ByteArray} {Q:PQ} (hb:BdX 56 5 X H nm s) (hs:s.size<=1000000) (hq:∀ H',Le X H'->Q (.string s) H'):Does (env Try.prog) 24 [.pointer (some ⟨nm,0,none⟩)] H Q :=
 does_str (by kernel_rfl) (by kernel_rfl) (by kernel_rfl) (by kernel_rfl) hb hs fun H' h _=>hq H' h
theorem c23 {o n:ByteArray} {a:OA} {k c:Nat} {p:Pc} {H:KH} {Q:PQ} (hq:Q (.string (srcP o n p)) H):Does (env Try.prog) 23 [.agg #[.string o,.string n,.slice a k c],.agg #[.bool p.1,.int .i64 p.2.1,.int .i64 p.2.2]] H Q:=by
 refine fn23 ok ⟨fun h=>?_,fun h=>?_⟩
 .unfold srcP at hq; rw [if_pos h] at hq; exact hq
 .unfold srcP at hq; rw [if_neg (by rw [h]; simp)] at hq; exact hq
theorem c25 {o n:ByteArray} {a:OA} {k c:Nat} {p:Pc} {H:KH} {Q:PQ} (ho:o.size<=1000000) (hn:n.size<=1000000) (hx:p.2.1<9223372036854775808) (hq:Q (.bool (thB o n p)) H) :
 Does (env Try.prog) 25 [.agg #[.string o,.string n,.slice a k c],.agg #[.bool p.1,.int .i64 p.2.1,.int .i64 p.2.2]] H Q:=by
 have hs:(srcP o n p).size<=1000000:=by unfold srcP; split<;>omega
 refine fn25 ok ⟨trivial,fun h=>c23 ok ⟨_,rfl,⟨⟨rfl,rfl⟩,rfl,⟨rfl,rfl⟩,rfl,trivial⟩,c16 ok hx hs ⟨_,rfl,trivial,?_⟩⟩,fun h=>⟨⟨trivial,trivial,trivial,trivial,trivial⟩,trivial,?_⟩⟩
 .have h:=of_decide_eq_true h
  have e:thB o n p=decide (0<=p.2.1/\0<=p.2.2/\p.2.2+p.2.1<=(((srcP o n p).size:Nat):Int)):=by
   unfold thB InP
   exact decide_eq_decide.2 ⟨fun z=>by omega,fun z=>by omega⟩
  rw [e] at hq
  exact hq
 .have h:=of_decide_eq_false h
  have e:thB o n p=false:=by
   unfold thB InP
   exact decide_eq_false (by omega)
  rw [e] at hq
  exact hq
theorem c21 {o n:ByteArray} {a:OA} {k c:Nat} {H:KH} {Q:PQ} (hq:∀ n1,H n1=none->Q (.func (.func 30) #[] #[.pointer (some ⟨n1,0,none⟩)]) (H.new n1 (mkEnt [.string o,.string n,.slice a k c] 0))) :
 Does (env Try.prog) 21 [.agg #[.string o,.string n,.slice a k c]] H Q:=fn21 ok fun n1 h1=>hq n1 h1
theorem c30 {kb ko:Nat} {o n:ByteArray} {a:OA} {c:Nat} {l:List Pc} {H:KH} (hb:ld H ⟨kb,ko,none⟩ [.string o,.string n,.slice a l.length c]) (hl:kold H 3 a l.length=some (pcC l)) (ho:o.size<=1000000) (hn:n.size<=1000000) (hx:∀ p∈l,p.2.1<9223372036854775808) (hs:l.length<=1000000) :
 TellA (env Try.prog) pcV 30 [.pointer (some ⟨kb,ko,none⟩)] (gdP o n l) H:=by
 intro y Inv H0 Q hup hle hstep hend hinv0
 have g0:=hle _ _ hinv0
 have hb2:ld H ⟨kb,ko+2,none⟩ [.slice a l.length c]:=ldSub hb 2 1 (by show 2+1<=3; omega)
 refine fn30 ok ⟨rfl,a,_,c,g0.ld hb2,?_⟩
 unfold vc30_L1
 refine ⟨fun m n4 n5 n6 a7 n8 n9 x10 x11 H12=>n4=y/\n5=kb/\n6=ko/\a7=a/\n8=l.length/\x10=((l.length:Nat):Int)/\∃ i:Nat,x11=i/\i<=l.length/\m=l.length-i/\Inv (gdP o n (l.drop i)) H12,⟨_,rfl,rfl,rfl,rfl,rfl,rfl,rfl,0,rfl,by omega,rfl,hinv0⟩,?_⟩
 rintro m n4 n5 n6 a7 n8 n9 x10 x11 H12 ⟨rfl,rfl,rfl,rfl,rfl,rfl,i,rfl,hi,rfl,hinv⟩
 refine ⟨fun hlt=>?_,fun hge=>?_⟩
 .have hlt:i<l.length:=by have:=of_decide_eq_true hlt; omega
  have e0:Int.toNat ((i:Nat):Int)=i:=by omega
  have hle1:=hle _ _ hinv
  obtain ⟨b0,o0,ha,r0⟩:=pc_ld (hle1.kold hl) (List.getElem?_eq_getElem hlt)
  have hd:l.drop i=l[i] :: l.drop (i+1):=List.drop_eq_getElem_cons hlt
  rw [e0]
  refine ⟨⟨by omega,by omega⟩,b0,o0,ha,_,_,_,r0,o,n,a7,l.length,c,hle1.ld hb,c25 ok ho hn (hx _ (List.getElem_mem hlt)) ⟨_,rfl,fun ht=>?_,fun ht=>?_⟩⟩
  .have hg:gdP o n (l.drop i)=l[i] :: gdP o n (l.drop (i+1)):=by rw [hd]; exact List.filter_cons_of_pos ht
   rw [hg] at hinv
   refine (hstep _ _ _ hinv).post fun v H3 hv=>?_
   obtain ⟨rfl,hv⟩:=hv
   exact ⟨true,rfl,fun h=>(by cases h),fun _=>⟨l.length-(i+1),by omega,rfl,rfl,rfl,rfl,rfl,rfl,rfl,i+1,by rw [wrap64 (by omega) (by omega)]; omega,by omega,rfl,hv⟩⟩
  .have hg:gdP o n (l.drop i)=gdP o n (l.drop (i+1)):=by rw [hd]; exact List.filter_cons_of_neg (by rw [ht]; simp)
   rw [hg] at hinv
   exact ⟨l.length-(i+1),by omega,rfl,rfl,rfl,rfl,rfl,rfl,rfl,i+1,by rw [wrap64 (by omega) (by omega)]; omega,by omega,rfl,hinv⟩
 .have hge:i=l.length:=by have:=of_decide_eq_false hge; omega
  rw [List.drop_eq_nil_of_le (by omega)] at hinv
  exact hend _ hinv
end
end Va
end Go.Proofs.Ytkdjmdcnfbolkaa
namespace Go.Ew
open Go.Ev Go.Deep
theorem le_del {X H:KH} {n:Nat} (h:Le X H) (hn:X n=none):Le X (H.del n):=fun k e q=>by
 simp only [KH.del]
 rw [if_neg (fun z=>by subst z; rw [hn] at q; cases q)]
 exact h k e q
theorem del_at {H:KH} {n k:Nat} {e:Ent} (q:H k=some e) (h:k≠n):(H.del n) k=some e:=by simp only [KH.del]; rw [if_neg h]; exact q
theorem put_at {H:KH} {p o:Nat} {vs:List Value} {e:Ent} (q:H p=some e):(H.put ⟨p,o,none⟩ vs) p=some ⟨wr e.cells o vs,e.len,e.unk,none⟩:=by simp only [KH.put,if_true,q,Option.map_some]
theorem new_at {H:KH} {n k:Nat} {e e':Ent} (q:H k=some e) (h:k≠n):(H.new n e') k=some e:=by simp only [KH.new]; rw [if_neg h]; exact q
theorem le_new {X H:KH} {n:Nat} {e:Ent} (h:Le X H) (hn:X n=none):Le X (H.new n e):=fun k e' q=>new_at (h k e' q) (fun z=>by subst z; rw [hn] at q; cases q)
theorem le_put {X H:KH} {p o:Nat} {vs:List Value} (h:Le X H) (hn:X p=none):Le X (H.put ⟨p,o,none⟩ vs):=fun k e' q=>put_ne (fun z=>by subst z; rw [hn] at q; cases q) (h k e' q)
structure BoxI (H:KH) (b:Nat) (v:Value):Prop where
 ex:∃ e,H b=some e/\wrB e=true/\rd e.cells 0 1=some [v]
theorem BoxI.up {H H':KH} {b:Nat} {v:Value} (h:BoxI H b v) (hl:Le H H'):BoxI H' b v:=by
 obtain ⟨e,h1,h2,h3⟩:=h.ex
 exact ⟨e,hl _ _ h1,h2,h3⟩
theorem BoxI.ld {H:KH} {b:Nat} {v:Value} (h:BoxI H b v):Ew.ld H ⟨b,0,none⟩ [v]:=by
 obtain ⟨e,h1,h2,h3⟩:=h.ex
 exact ⟨rfl,e,h1,h3⟩
theorem BoxI.may {H:KH} {b:Nat} {v:Value} (h:BoxI H b v):KH.may H b:=by
 obtain ⟨e,h1,h2,h3⟩:=h.ex
 exact ⟨e,h1,h2⟩
theorem BoxI.put {H:KH} {b:Nat} {v:Value} (h:BoxI H b v) (u:Value):BoxI (H.put ⟨b,0,none⟩ [u]) b u:=by
 obtain ⟨e,h1,h2,h3⟩:=h.ex
 exact ⟨_,put_at h1,wrB_keep h2,rd_wr1 h3⟩
theorem BoxI.del {H:KH} {b n:Nat} {v:Value} (h:BoxI H b v) (hn:b≠n):BoxI (H.del n) b v:=by
 obtain ⟨e,h1,h2,h3⟩:=h.ex
 exact ⟨e,del_at h1 hn,h2,h3⟩
theorem BoxI.new {H:KH} {b n:Nat} {v:Value} {e:Ent} (h:BoxI H b v) (hn:b≠n):BoxI (H.new n e) b v:=by
 obtain ⟨e,h1,h2,h3⟩:=h.ex
 exact ⟨e,new_at h1 hn,h2,h3⟩
theorem BoxI.mk0 {H:KH} {b:Nat} {v:Value} (h:H b=some (mkEnt [v] 0)):BoxI H b v:=⟨_,h,rfl,mk_rd (cs:=[v]) (u:=0)⟩
theorem ne_of {H:KH} {a b:Nat} {e:Ent} (h1:H a=some e) (h2:H b=none):a≠b:=fun z=>by subst z; rw [h2] at h1; cases h1
end Go.Ew
namespace Go.Proofs.Ytkdjmdcnfbolkaa
open Go.Ev Go.Ew
namespace Va
section
variable (ok : EnvOk (env Try.prog))
include ok
theorem c12 {o n:ByteArray} {a:OA} {c:Nat} {l:List Pc} {H:KH} {Q:PQ} (hl:kold H 3 a l.length=some (pcC l)) (ho:o.size<=1000000) (hn:n.size<=1000000) (hx:∀ p∈l,p.2.1<9223372036854775808) (hs:l.length<=1000000) (hT:lnP (gdP o n l)<=1000000)
 (hq:∀ H',Le H H'->Q (.int .i64 (lnP (gdP o n l))) H'):Does (env Try.prog) 12 [.agg #[.string o,.string n,.slice a l.length c]] H Q:=by
 refine fn12 ok fun n1 h1=>?_
 have bx1:BoxI (H.new n1 (mkEnt [.int .i64 0] 0)) n1 (.int .i64 0):=BoxI.mk0 (if_pos rfl)
 refine ⟨⟨_,rfl,bx1.ld⟩,bx1.may,c21 ok fun n3 h3=>⟨30,[.pointer (some ⟨n3,0,none⟩)],rfl,⟨(by kernel_rfl)⟩,fun n7 L8 h7 hR=>?_⟩⟩
 have bx2:=bx1.put (.int .i64 0)
 obtain ⟨e2,hp2,_,_⟩:=bx2.ex
 have hn3:H n3=none:=by
  cases hk:H n3 with
  | none=>rfl
  | some e=>have:=(le_put (o:=0) (vs:=[.int .i64 0]) (Le.new (e:=mkEnt [.int .i64 0] 0) h1) h1:Le H _) _ _ hk; rw [h3] at this; cases this
 have n13:n1≠n3:=ne_of hp2 h3
 have hHc1:(H.new n3 (mkEnt [.string o,.string n,.slice a l.length c] 0)) n1=none:=by simp only [KH.new]; rw [if_neg n13]; exact h1
 have leK:Le (H.new n3 (mkEnt [.string o,.string n,.slice a l.length c] 0)) (((H.new n1 (mkEnt [.int .i64 0] 0)).put ⟨n1,0,none⟩ [.int .i64 0]).new n3 (mkEnt [.string o,.string n,.slice a l.length c] 0)):=fun k e q=>by
  simp only [KH.new] at q ⊢
  by_cases z:k=n3
  .rw [if_pos z] at q ⊢; exact q
  .rw [if_neg z] at q ⊢
   exact le_put (Le.new h1) h1 _ _ q
 have hHc7:(H.new n3 (mkEnt [.string o,.string n,.slice a l.length c] 0)) n7=none:=leK.none h7
 have bx3:=bx2.new (n:=n3) (e:=mkEnt [.string o,.string n,.slice a l.length c] 0) n13
 obtain ⟨e3,hp3,_,_⟩:=bx3.ex
 have n17:n1≠n7:=ne_of hp3 h7
 refine (c30 ok (H:=H.new n3 (mkEnt [.string o,.string n,.slice a l.length c] 0)) (kb:=n3) (ko:=0) ⟨rfl,_,if_pos rfl,mk_rd (cs:=[.string o,.string n,.slice a l.length c]) (u:=0)⟩ ((Le.new hn3).kold hl) ho hn hx hs) n7
  (fun r H1=>H1 n7=some (lpE L8 0 none)/\Le (H.new n3 (mkEnt [.string o,.string n,.slice a l.length c] 0)) H1/\∃ dn,dn++r=gdP o n l/\BoxI H1 n1 (.int .i64 (lnP dn))) _ _ ?_ (fun r H1 h=>h.2.1) ?_ ?_ ?_
 .rintro r X H1 ⟨q1,q2,dn,q3,q4⟩ hXH
  exact ⟨hXH _ _ q1,q2.trans hXH,dn,q3,q4.up hXH⟩
 .rintro p r H1 ⟨q1,q2,dn,q3,q4⟩
  have hin:∀ q∈gdP o n l,InP o n q:=fun q hq=>gdP_in hq
  have b1:0<=lnP dn:=lnP_nonneg (o:=o) (n:=n) fun q hq=>hin q (by rw [<- q3]; simp [hq])
  have b2:1<=p.2.2:=(hin p (by rw [<- q3]; simp)).1
  have b3:0<=lnP r:=lnP_nonneg (o:=o) (n:=n) fun q hq=>hin q (by rw [<- q3]; simp [hq])
  have b4:lnP (dn++p :: r)=lnP dn+(p.2.2+lnP r):=lnP_app _ _
  rw [q3] at b4
  have hw:IntKind.wrap .i64 (lnP dn+p.2.2)=lnP (dn++[p]):=by
   rw [wrap64 (by omega) (by omega),lnP_app]
   show _=lnP dn+(p.2.2+0)
   omega
  have bd:=q4.del n17
  refine hR p.1 p.2.1 p.2.2 H1 _ q1 ⟨lnP dn,bd.ld,⟨[.int .i64 (lnP dn)],rfl,bd.ld⟩,bd.may,fun hn7=>⟨rfl,if_pos rfl,?_,dn++[p],by rw [List.append_assoc]; exact q3,?_⟩⟩
  .exact le_new (le_put (le_del q2 hHc7) hHc1) hHc7
  .rw [hw]
   exact (bd.put _).new n17
 .rintro H1 ⟨q1,q2,dn,q3,q4⟩
  rw [List.append_nil] at q3
  subst q3
  exact .inl ⟨q1,_,(q4.del n17).ld,hq _ ((Le.new hn3).trans (le_del q2 hHc7))⟩
 .exact ⟨if_pos rfl,leK.trans (Le.new h7),[],rfl,bx3.new n17⟩
theorem c11 {o n:ByteArray} {a:OA} {c:Nat} {l:List Pc} {H:KH} {Q:PQ} (hl:kold H 3 a l.length=some (pcC l)) (ho:o.size<=1000000) (hn:n.size<=1000000) (hx:∀ p∈l,p.2.1<9223372036854775808) (hs:l.length<=1000000) (hT:lnP (gdP o n l)<=1000000)
 (hq:∀ H',Le H H'->Q (.string (txP o n (gdP o n l))) H'):Does (env Try.prog) 11 [.agg #[.string o,.string n,.slice a l.length c]] H Q:=by
 refine fn11 ok fun n1 h1 n2 h2=>⟨o,n,a,l.length,c,⟨rfl,_,Le.new h2 _ _ (if_pos rfl),mk_rd (cs:=[.string o,.string n,.slice a l.length c]) (u:=0)⟩,c21 ok fun n3 h3=>⟨30,[.pointer (some ⟨n3,0,none⟩)],rfl,⟨(by kernel_rfl)⟩,fun n12 L13 h12 hR=>?_⟩⟩
 generalize hT1:(mkEnt [.string o,.string n,.slice a l.length c] 0:Ent)=T1 at *
 have hT1':mkEnt (Array.toList #[Value.string o,.string n,.slice a l.length c]) 0=T1:=hT1
 have rdT:rd T1.cells 0 3=some [.string o,.string n,.slice a l.length c]:=by rw [<- hT1]; exact mk_rd (cs:=[.string o,.string n,.slice a l.length c]) (u:=0)
 have h2':(H.new n1 T1) n2=none:=h2
 have h3':((H.new n1 T1).new n2 (bldE 56 5 n2 none)) n3=none:=h3
 have hn3:(H.new n1 T1) n3=none:=(Le.new h2').none h3'
 have n23:n2≠n3:=ne_of (if_pos rfl:((H.new n1 T1).new n2 (bldE 56 5 n2 none)) n2=_) h3'
 have leK:Le ((H.new n1 T1).new n3 T1) (((H.new n1 T1).new n2 (bldE 56 5 n2 none)).new n3 T1):=fun k e q=>by
  simp only [KH.new] at q ⊢
  by_cases z:k=n3
  .rw [if_pos z] at q ⊢; exact q
  .rw [if_neg z] at q ⊢
   exact Le.new h2' _ _ q
 have h12':(((H.new n1 T1).new n2 (bldE 56 5 n2 none)).new n3 T1) n12=none:=h12
 have hX12:((H.new n1 T1).new n3 T1) n12=none:=leK.none h12'
 have hX2:((H.new n1 T1).new n3 T1) n2=none:=by show (if n2=n3 then some T1 else (H.new n1 T1) n2)=none; rw [if_neg n23]; exact h2'
 have hX1:((H.new n1 T1).new n3 T1) n1=some T1:=Le.new hn3 _ _ (if_pos rfl)
 have leX:Le H ((H.new n1 T1).new n3 T1):=(Le.new h1).trans (Le.new hn3)
 have b0:BdX 56 5 ((H.new n1 T1).new n3 T1) (((H.new n1 T1).new n2 (bldE 56 5 n2 none)).new n3 T1) n2 ⟨#[]⟩:=⟨leK,hX2,.inl ⟨rfl,Le.new h3' _ _ (if_pos rfl)⟩⟩
 have hin:∀ q∈gdP o n l,InP o n q:=fun q hq=>gdP_in hq
 have pre:∀ dn r,dn++r=gdP o n l->(txP o n dn).size<=1000000:=fun dn r e=>by
  have z1:=txP_size (o:=o) (n:=n) (l:=dn) fun q hq=>hin q (by rw [<- e]; simp [hq])
  have z2:0<=lnP r:=lnP_nonneg (o:=o) (n:=n) fun q hq=>hin q (by rw [<- e]; simp [hq])
  have z3:lnP (dn++r)=lnP dn+lnP r:=lnP_app _ _
  rw [e] at z3
  omega
 refine (c30 ok (H:=(H.new n1 T1).new n3 T1) (kb:=n3) (ko:=0) ⟨rfl,_,if_pos rfl,rdT⟩ (leX.kold hl) ho hn hx hs) n12
  (fun r H1=>H1 n12=some (lpE L13 0 none)/\∃ dn,dn++r=gdP o n l/\BdX 56 5 ((H.new n1 T1).new n3 T1) H1 n2 (txP o n dn)) _ _ ?_ (fun r H1 ⟨_,dn,_,b⟩=>b.le) ?_ ?_ ?_
 .rintro r X H1 ⟨q1,dn,q3,q4⟩ hXH
  exact ⟨hXH _ _ q1,dn,q3,q4.up hXH⟩
 .rintro p r H1 ⟨q1,dn,q3,q4⟩
  have hp:=hin p (by rw [<- q3]; simp)
  have hsrc:(srcP o n p).size<=1000000:=by unfold srcP; split<;>omega
  obtain ⟨p1,p2,p3⟩:=hp
  have hw:IntKind.wrap .i64 (p.2.1+p.2.2)=p.2.1+p.2.2:=wrap64 (by omega) (by omega)
  have hc:strCut (srcP o n p) p.2.1 (p.2.1+p.2.2)=cutP o n p:=rfl
  have hcs:=cutP_size (o:=o) (n:=n) (p:=p) ⟨p1,p2,p3⟩
  have bd:=q4.del q1 hX12
  refine hR p.1 p.2.1 p.2.2 H1 _ q1 ⟨trivial,o,n,a,l.length,c,⟨rfl,T1,bd.le _ _ hX1,rdT⟩,c23 ok ⟨_,rfl,⟨⟨rfl,rfl⟩,rfl,⟨rfl,rfl⟩,rfl,⟨rfl,rfl⟩,rfl,rfl,trivial⟩,?_⟩⟩
  rw [hw,hc]
  refine ⟨⟨by omega,by omega,by omega⟩,c22 bd (pre dn _ q3) (by omega) fun H5 b5=>⟨_,rfl,trivial,fun hn12=>⟨rfl,if_pos rfl,dn++[p],by rw [List.append_assoc]; exact q3,?_⟩⟩⟩
  rw [txP_app]
  show BdX 56 5 _ _ n2 (txP o n dn++(cutP o n p++⟨#[]⟩))
  rw [ba_empty_r]
  exact b5.up (Le.new hn12)
 .rintro H1 ⟨q1,dn,q3,q4⟩
  rw [List.append_nil] at q3
  subst q3
  exact .inl ⟨q1,c24 (q4.del q1 hX12) (pre _ [] (List.append_nil _)) fun H4 h4=>⟨_,rfl,hq H4 (leX.trans h4)⟩⟩
 .exact ⟨if_pos rfl,[],rfl,b0.up (Le.new h12')⟩
theorem c13 {o n:ByteArray} {a:OA} {c:Nat} {l:List Pc} {H:KH} {Q:PQ} (hl:kold H 3 a l.length=some (pcC l)) (ho:o.size<=1000000) (hn:n.size<=1000000) (hx:∀ p∈l,p.2.1<9223372036854775808) (hs:l.length<=1000000)
 (hq:Q (.bool (l.all (thB o n))) H):Does (env Try.prog) 13 [.agg #[.string o,.string n,.slice a l.length c]] H Q:=by
 refine fn13 ok ?_
 unfold vc13 vc13_L1
 refine ⟨fun m s4 s5 a6 n7 n8 a9 n10 n11 x12 x13 H14=>s4=o/\s5=n/\a6=a/\n7=l.length/\n8=c/\a9=a/\n10=l.length/\x12=((l.length:Nat):Int)/\H14=H/\∃ i:Nat,x13=i/\i<=l.length/\m=l.length-i/\l.all (thB o n)=(l.drop i).all (thB o n),⟨_,rfl,rfl,rfl,rfl,rfl,rfl,rfl,rfl,rfl,0,rfl,by omega,rfl,rfl⟩,?_⟩
 rintro m s4 s5 a6 n7 n8 a9 n10 n11 x12 x13 H14 ⟨rfl,rfl,rfl,rfl,rfl,rfl,rfl,rfl,rfl,i,rfl,hi,rfl,hall⟩
 refine ⟨fun hlt=>?_,fun hge=>?_⟩
 .have hlt:i<l.length:=by have:=of_decide_eq_true hlt; omega
  have e0:Int.toNat ((i:Nat):Int)=i:=by omega
  obtain ⟨b0,o0,ha,r0⟩:=pc_ld hl (List.getElem?_eq_getElem hlt)
  have hd:l.drop i=l[i] :: l.drop (i+1):=List.drop_eq_getElem_cons hlt
  rw [hd,List.all_cons] at hall
  rw [e0]
  refine ⟨⟨by omega,by omega⟩,b0,o0,ha,_,_,_,r0,c25 ok ho hn (hx _ (List.getElem_mem hlt)) ⟨_,rfl,fun ht=>?_,fun ht=>?_⟩⟩
  .have ht:thB s4 s5 l[i]=false:=by simpa using ht
   rw [hall,ht,Bool.false_and] at hq
   exact hq
  .have ht:thB s4 s5 l[i]=true:=by simpa using ht
   rw [ht,Bool.true_and] at hall
   exact ⟨l.length-(i+1),by omega,rfl,rfl,rfl,rfl,rfl,rfl,rfl,rfl,rfl,i+1,by rw [wrap64 (by omega) (by omega)]; omega,by omega,rfl,hall⟩
 .have hge:i=l.length:=by have:=of_decide_eq_false hge; omega
  rw [List.drop_eq_nil_of_le (by omega)] at hall
  rw [hall] at hq
  exact hq
end
end Va
end Go.Proofs.Ytkdjmdcnfbolkaa
namespace Go.Ew
open Go.Ev Go.Deep
theorem lnP_le {o n:ByteArray} {N:Nat} (ho:o.size<=N) (hn:n.size<=N):∀ {l:List Pc},(∀ p∈l,InP o n p)->lnP l<=((l.length*N:Nat):Int)
 | [],_=>by simp [lnP]
 | p :: r,h=>by
   have ih:=lnP_le (N:=N) ho hn (l:=r) fun q hq=>h q (by simp [hq])
   obtain ⟨h1,h2,h3⟩:=h p (by simp)
   have:(srcP o n p).size<=N:=by unfold srcP; split<;>omega
   show p.2.2+lnP r<=_
   rw [List.length_cons,Nat.add_mul,Nat.one_mul]
   omega
theorem gdP_snoc {o n:ByteArray} {l:List Pc} {p:Pc}:gdP o n (l++[p])=if thB o n p=true then gdP o n l++[p] else gdP o n l:=by
 unfold gdP
 rw [List.filter_append]
 by_cases h:thB o n p=true
 .rw [if_pos h,List.filter_cons_of_pos h]; rfl
 .rw [if_neg h,List.filter_cons_of_neg h]; simp
end Go.Ew
namespace Go.Proofs.Ytkdjmdcnfbolkaa
open Go.Ev Go.Ew
namespace Va
section
variable (ok : EnvOk (env Try.prog))
include ok
omit ok in
theorem c7 {H:KH} {Q:PQ} (hq:Q (.bool true) H):Does (env Try.prog) 7 [] H Q:=does_true (by kernel_rfl) (by kernel_rfl) (by kernel_rfl) hq
theorem c4m {o n:ByteArray} {a:OA} {c:Nat} {l:List Pc} {H:KH} (hl:kold H 3 a l.length=some (pcC l)) (hx:∀ p∈l,p.2.1<9223372036854775808):Does (env Try.prog) 4 [.string o,.string n,.slice a l.length c] H fun v _=>v = .bool true:=by
 refine fn4 ok (c7 ⟨true,rfl,fun h=>(by cases h),fun _=>⟨fun _=>rfl,fun l0=>⟨fun _=>rfl,fun l1=>⟨fun _=>rfl,fun l2=>?_⟩⟩⟩⟩)
 have l0:o.size<=60:=by have:=of_decide_eq_false l0; omega
 have l1:n.size<=60:=by have:=of_decide_eq_false l1; omega
 have l2:l.length<=10:=by have:=of_decide_eq_false l2; omega
 unfold vc4_L6
 refine ⟨fun m s4 s5 a6 n7 n8 b9 x10 s11 x12 H13=>s4=o/\s5=n/\a6=a/\n7=l.length/\n8=c/\H13=H/\∃ i:Nat,x12=i/\i<=l.length/\m=l.length-i/\b9=(l.take i).all (thB o n)/\x10=lnP (gdP o n (l.take i))/\s11=txP o n (gdP o n (l.take i)),⟨_,rfl,rfl,rfl,rfl,rfl,rfl,0,rfl,by omega,rfl,rfl,rfl,rfl⟩,?_⟩
 rintro m s4 s5 a6 n7 n8 b9 x10 s11 x12 H13 ⟨rfl,rfl,rfl,rfl,rfl,rfl,i,rfl,hi,rfl,rfl,rfl,rfl⟩
 refine ⟨fun hlt=>?_,fun hge=>?_⟩
 .have hlt:i<l.length:=by have:=of_decide_eq_true hlt; omega
  have e0:Int.toNat ((i:Nat):Int)=i:=by omega
  obtain ⟨b0,o0,ha,r0⟩:=pc_ld hl (List.getElem?_eq_getElem hlt)
  have hpx:=hx _ (List.getElem_mem hlt)
  have ht:l.take (i+1)=l.take i++[l[i]]:=List.take_succ_eq_append_getElem hlt
  have hi1:IntKind.wrap .i64 (((i:Nat):Int)+1)=((i+1:Nat):Int):=by rw [wrap64 (by omega) (by omega)]; omega
  have hgl:(gdP s4 s5 (l.take i)).length<=10:=by
   have:=List.length_filter_le (thB s4 s5) (l.take i)
   have h2:=List.length_take_le i l
   unfold gdP; omega
  have hin:∀ q∈gdP s4 s5 (l.take i),InP s4 s5 q:=fun q hq=>gdP_in hq
  have b1:=lnP_nonneg hin
  have b2:=lnP_le l0 l1 hin
  have b3:=txP_size hin
  have b4:(gdP s4 s5 (l.take i)).length*60<=600:=by omega
  have bad:¬ InP s4 s5 l[i]->∃ n1:Nat,n1<l.length-i/\(s4=s4/\s5=s5/\a6=a6/\l.length=l.length/\n8=n8/\H13=H13/\∃ i':Nat,IntKind.wrap .i64 (((i:Nat):Int)+1)=i'/\i'<=l.length/\n1=l.length-i'/\false=(l.take i').all (thB s4 s5)/\lnP (gdP s4 s5 (l.take i))=lnP (gdP s4 s5 (l.take i'))/\txP s4 s5 (gdP s4 s5 (l.take i))=txP s4 s5 (gdP s4 s5 (l.take i'))):=fun hn=>by
   have hth:thB s4 s5 l[i]=false:=decide_eq_false hn
   have hgd:gdP s4 s5 (l.take (i+1))=gdP s4 s5 (l.take i):=by rw [ht,gdP_snoc,if_neg (by rw [hth]; simp)]
   refine ⟨l.length-(i+1),by omega,rfl,rfl,rfl,rfl,rfl,rfl,i+1,hi1,by omega,rfl,?_,by rw [hgd],by rw [hgd]⟩
   rw [ht,List.all_append]
   simp only [List.all_cons,hth,Bool.false_and,Bool.and_false]
  have good:InP s4 s5 l[i]->∀ cut,cut=cutP s4 s5 l[i]->∃ n1:Nat,n1<l.length-i/\(s4=s4/\s5=s5/\a6=a6/\l.length=l.length/\n8=n8/\H13=H13/\∃ i':Nat,IntKind.wrap .i64 (((i:Nat):Int)+1)=i'/\i'<=l.length/\n1=l.length-i'/\(l.take i).all (thB s4 s5)=(l.take i').all (thB s4 s5)/\IntKind.wrap .i64 (lnP (gdP s4 s5 (l.take i))+(l[i]).2.2)=lnP (gdP s4 s5 (l.take i'))/\txP s4 s5 (gdP s4 s5 (l.take i))++cut=txP s4 s5 (gdP s4 s5 (l.take i'))):=fun hn cut hcut=>by
   have hth:thB s4 s5 l[i]=true:=decide_eq_true hn
   have hgd:gdP s4 s5 (l.take (i+1))=gdP s4 s5 (l.take i)++[l[i]]:=by rw [ht,gdP_snoc,if_pos hth]
   obtain ⟨p1,p2,p3⟩:=hn
   have hs:(srcP s4 s5 l[i]).size<=60:=by unfold srcP; split<;>omega
   refine ⟨l.length-(i+1),by omega,rfl,rfl,rfl,rfl,rfl,rfl,i+1,hi1,by omega,rfl,?_,?_,?_⟩
   .rw [ht,List.all_append]
    simp only [List.all_cons,hth,Bool.true_and,List.all_nil,Bool.and_true]
   .rw [hgd,lnP_app,wrap64 (by omega) (by omega)]
    show _=_+((l[i]).2.2+0)
    omega
   .rw [hgd,txP_app,hcut]
    show _=_++(cutP s4 s5 l[i]++⟨#[]⟩)
    rw [ba_empty_r]
  rw [e0]
  refine ⟨⟨by omega,by omega⟩,b0,o0,ha,_,_,_,r0,fun hb=>?_,fun hb=>?_⟩
  .have hsrc:srcP s4 s5 l[i]=s5:=by unfold srcP; rw [if_pos hb]
   refine ⟨fun g1=>bad fun z=>?_,fun g1=>⟨fun g2=>bad fun z=>?_,fun g2=>⟨fun g3=>bad fun z=>?_,fun g3=>?_⟩⟩⟩
   .have:=of_decide_eq_true g1; have:=z.1; omega
   .have:=of_decide_eq_true g2; have:=z.2.1; omega
   .have:=of_decide_eq_true g3; obtain ⟨z1,z2,z3⟩:=z; rw [hsrc] at z3; omega
   have g1:=of_decide_eq_false g1
   have g2:=of_decide_eq_false g2
   have g3:=of_decide_eq_false g3
   rw [wrap64 (x:=((s5.size:Nat):Int)-(l[i]).2.1) (by omega) (by omega)]
   refine ⟨fun g4=>bad fun z=>?_,fun g4=>?_⟩
   .have:=of_decide_eq_true g4; obtain ⟨z1,z2,z3⟩:=z; rw [hsrc] at z3; omega
   have g4:=of_decide_eq_false g4
   have hp:InP s4 s5 l[i]:=⟨by omega,by omega,by rw [hsrc]; omega⟩
   have hw:IntKind.wrap .i64 ((l[i]).2.1+(l[i]).2.2)=(l[i]).2.1+(l[i]).2.2:=wrap64 (by omega) (by omega)
   have hcut:strCut s5 (l[i]).2.1 ((l[i]).2.1+(l[i]).2.2)=cutP s4 s5 l[i]:=by unfold cutP; rw [hsrc]
   have hcs:=cutP_size hp
   rw [hw,hcut]
   exact ⟨trivial,⟨by omega,by omega,by omega⟩,by omega,good hp _ rfl⟩
  .have hsrc:srcP s4 s5 l[i]=s4:=by unfold srcP; rw [if_neg (by rw [hb]; simp)]
   refine ⟨fun g1=>bad fun z=>?_,fun g1=>⟨fun g2=>bad fun z=>?_,fun g2=>⟨fun g3=>bad fun z=>?_,fun g3=>?_⟩⟩⟩
   .have:=of_decide_eq_true g1; have:=z.1; omega
   .have:=of_decide_eq_true g2; have:=z.2.1; omega
   .have:=of_decide_eq_true g3; obtain ⟨z1,z2,z3⟩:=z; rw [hsrc] at z3; omega
   have g1:=of_decide_eq_false g1
   have g2:=of_decide_eq_false g2
   have g3:=of_decide_eq_false g3
   rw [wrap64 (x:=((s4.size:Nat):Int)-(l[i]).2.1) (by omega) (by omega)]
   refine ⟨fun g4=>bad fun z=>?_,fun g4=>?_⟩
   .have:=of_decide_eq_true g4; obtain ⟨z1,z2,z3⟩:=z; rw [hsrc] at z3; omega
   have g4:=of_decide_eq_false g4
   have hp:InP s4 s5 l[i]:=⟨by omega,by omega,by rw [hsrc]; omega⟩
   have hw:IntKind.wrap .i64 ((l[i]).2.1+(l[i]).2.2)=(l[i]).2.1+(l[i]).2.2:=wrap64 (by omega) (by omega)
   have hcut:strCut s4 (l[i]).2.1 ((l[i]).2.1+(l[i]).2.2)=cutP s4 s5 l[i]:=by unfold cutP; rw [hsrc]
   have hcs:=cutP_size hp
   rw [hw,hcut]
   exact ⟨trivial,⟨by omega,by omega,by omega⟩,by omega,good hp _ rfl⟩
 .have hge:i=l.length:=by have:=of_decide_eq_false hge; omega
  subst hge
  rw [List.take_length]
  have hin:∀ q∈gdP s4 s5 l,InP s4 s5 q:=fun q hq=>gdP_in hq
  have b2:=lnP_le l0 l1 hin
  have hgl:(gdP s4 s5 l).length<=10:=by
   have:=List.length_filter_le (thB s4 s5) l
   unfold gdP; omega
  have b4:(gdP s4 s5 l).length*60<=600:=by omega
  refine c13 ok hl (by omega) (by omega) hx (by omega) ⟨_,rfl,fun _=>⟨fun _=>rfl,fun _=>c11 ok hl (by omega) (by omega) hx (by omega) (by omega) fun H5 h5=>⟨_,rfl,fun _=>c12 ok (h5.kold hl) (by omega) (by omega) hx (by omega) (by omega) fun H8 h8=>⟨_,rfl,?_⟩,fun z=>?_⟩⟩,fun z=>?_⟩
  .rw [decide_eq_true rfl]
  .rw [strEq_iff.2 rfl] at z; cases z
  .simp at z
end
end Va
end Go.Proofs.Ytkdjmdcnfbolkaa
namespace Go.Ew
open Go.Ev Go.Deep Go.RowKit
def treeOf {α:Type} (f:Nat->Option α):Nat->BT (Option α)
 | 0=>.nil
 | n+1=>tset (treeOf f n) n (f n)
theorem tree_get {α:Type} (f:Nat->Option α):∀ n k,tget (treeOf f n) k=if k<n then f k else none
 | 0,k=>by simp [treeOf,tget]
 | n+1,k=>by
   rw [treeOf,tget_tset,tree_get f n]
   by_cases e:n=k
   .subst e; simp
   .rw [if_neg e]
    by_cases h:k<n
    .rw [if_pos h,if_pos (by omega)]
    .rw [if_neg h,if_neg (by omega)]
def absV (N:Nat):Value->Option Value
 | .pointer (some a)=>if a.spot=none/\a.block<N then some (.pointer (some a)) else none
 | .slice (some a) l c=>if a.spot=none/\a.block<N/\c<unkU then some (.slice (some a) l c) else if l=0 then some vague else none
 | v=>if isPlain v=true then some v else none
def thW (N:Nat):Th:=fun n=>if n<N then some (n,0,0) else none
theorem absV_S {N:Nat} {v u:Value} (h:absV N v=some u):S (thW N) u v:=by
 unfold absV at h
 split at h
 .rename_i a
  split at h
  .rename_i hq
   cases h
   refine ⟨hq.1,(a.block,0,0),by simp [thW,hq.2],?_⟩
   obtain ⟨b,o,sp⟩:=a
   obtain ⟨h1,h2⟩:=hq
   cases h1
   simp
  .cases h
 .rename_i a l c
  split at h
  .rename_i hq
   cases h
   obtain ⟨b,o,sp⟩:=a
   obtain ⟨h1,h2,h3⟩:=hq
   cases h1
   exact .inl ⟨rfl,(b,0,0),c,by simp only at h2; simp [thW,h2],.inl ⟨h3,rfl⟩,by simp⟩
  .split at h
   .rename_i hl
    cases h
    subst hl
    exact .inr ⟨by simp,rfl,Nat.le_refl _,_,_,rfl⟩
   .cases h
 .split at h
  .rename_i hp
   cases h
   exact S_plain hp
  .cases h
def bsz (w:World) (b:Nat):Nat:=match w.heap[b]? with
 | some (.cells c _ _)=>c.size
 | _=>0
def blkOf (w:World) (b:Nat) (i:Nat):Option Value:=match w.cell? ⟨b,i,none⟩ with
 | some v=>if w.frozen? ⟨b,i,none⟩=false then absV w.heap.size v else none
 | none=>none
def entW (w:World) (b:Nat):Ent:=⟨treeOf (blkOf w b) (bsz w b),0,roU,none⟩
def KW (w:World):KH:=fun b=>if b<w.heap.size then some (entW w b) else none
def snapW (w:World):Hp:=⟨treeOf (fun b=>some (entW w b)) w.heap.size,w.heap.size⟩
theorem snap_get (w:World) (k:Nat):tget (snapW w).m k=KW w k:=tree_get _ _ _
theorem KW_some {w:World} {k:Nat} {e:Ent} (h:KW w k=some e):k<w.heap.size/\e=entW w k:=by
 unfold KW at h
 split at h
 .rename_i q; cases h; exact ⟨q,rfl⟩
 .cases h
theorem HR_snap [LG] (w:World):HR (thW w.heap.size) (snapW w) w:=by
 refine ⟨fun n e x he hx=>?_,fun n m e e' x y h1 h2 hne h3 h4=>?_,fun n hn=>?_⟩
 .rw [snap_get] at he
  obtain ⟨h1,rfl⟩:=KW_some he
  have hx':x=(n,0,0):=by
   simp only [thW,if_pos h1,Option.some.injEq] at hx
   exact hx.symm
  subst hx'
  refine ⟨hx,h1,fun i v hi=>?_,fun o ho=>(by cases ho),fun hu=>⟨by simp [entW],fun i hi=>by simp at hi⟩⟩
  simp only [entW,tree_get] at hi
  split at hi
  .unfold blkOf at hi
   simp only [Nat.zero_add]
   cases hc:w.cell? ⟨n,i,none⟩ with
   | none=>rw [hc] at hi; cases hi
   | some u =>
     rw [hc] at hi
     simp only at hi
     split at hi
     .rename_i hf
      exact ⟨⟨u,rfl,absV_S hi⟩,hf⟩
     .cases hi
  .cases hi
 .unfold thW at h3 h4
  split at h3
  .split at h4
   .cases h3; cases h4; exact hne
   .cases h4
  .cases h3
 .have:¬ n<w.heap.size:=by have:w.heap.size<=n:=hn; omega
  simp [thW,this]
theorem cell_lt {w:World} {b o:Nat} {v:Value} (h:w.cell? ⟨b,o,none⟩=some v):b<w.heap.size/\o<bsz w b:=by
 unfold World.cell? at h
 unfold bsz
 cases hb:w.heap[b]? with
 | none=>simp [hb] at h
 | some ob =>
   refine ⟨(Array.getElem?_eq_some_iff.1 hb).1,?_⟩
   rw [hb] at h
   cases ob<;>simp at h ⊢
   rename_i c t fr
   exact (Array.getElem?_eq_some_iff.1 h).1
theorem KW_cell {w:World} {b o:Nat} {v u:Value} (h:w.cell? ⟨b,o,none⟩=some v) (hf:w.frozen? ⟨b,o,none⟩=false) (ha:absV w.heap.size v=some u):∃ e,KW w b=some e/\tget e.cells o=some u:=by
 obtain ⟨h1,h2⟩:=cell_lt h
 refine ⟨entW w b,by unfold KW; rw [if_pos h1],?_⟩
 simp only [entW,tree_get,if_pos h2]
 unfold blkOf
 rw [h]
 simp only [hf,if_true,ha]
theorem top {E:Env} (hE:EnvOk E) {g:Nat} {fn:Func} (hfn:tget E.ff g=some fn) {args cargs:List Value} {w:World} {v:Value} (hp:isPlain v=true) (hD:Does E g args (KW w) fun r _=>r=v) (ha:all2 (W (thW w.heap.size)) args cargs) :
 Calls E.P g cargs.toArray w fun e w'=>e = .returned v/\Below w.heap.size w w':=by
 letI:=lgOf E
 obtain ⟨r,h',H',⟨n,hrun⟩,hq,_⟩:=hD.run (snapW w) (fun k hk=>by
  rw [snap_get]
  have:¬ k<w.heap.size:=by have:w.heap.size<=k:=hk; omega
  simp [KW,this]) (fun k e q=>by rw [snap_get]; exact q)
 subst hq
 rcases (call_sound hE (lgOf_ok E) (ev_sound hE (lgOf_ok E) n) (snapW w) g args r h' (hrun n (Nat.le_refl _)) (thW w.heap.size) w cargs (HR_snap w) ha).1 hD.lt with ⟨_,h2⟩ | ⟨u,h1,_,_⟩
 .refine h2.mono fun e w' hq=>?_
  obtain ⟨θ',u,rfl,q1,q2,q3⟩:=hq
  rw [W_plain hp q3]
  refine ⟨rfl,q1.os,q1.tape,q1.output,q1.size,fun k hk=>q1.frame k hk fun n e x q hu _=>?_⟩
  rw [snap_get] at q
  obtain ⟨_,rfl⟩:=KW_some q
  exact absurd rfl hu
 .exfalso
  obtain ⟨f1,f2,c',f3,_⟩:=hE.ff g fn hfn
  have f2' : ¬ fn.name = "runtime.NumGoroutine" := fun e => by rw [e] at f2; simp at f2
  simp [callFunc,f1,f2',f3] at h1
section
variable {H : Type} {enc : TypeId × Value -> H} {P : Program} {w : World}
theorem cells_get {b n:Nat} {a:Addr} {cs:List Value} (h:w.cells? b a n=some cs):cs.length=n/\∀ i v,cs[i]? = some v->w.cell? (a.add i)=some v:=by
 unfold World.cells? at h
 split at h
 .refine ⟨by simpa using mapM_some_length h,fun i v hv=>?_⟩
  have hi:i<n:=by
   have:=mapM_some_length h
   rcases Nat.lt_or_ge i n with q | q
   .exact q
   .rw [List.getElem?_eq_none (by simp at this; omega)] at hv; cases hv
  have:=mapM_some_get h i i (by simp [hi])
  rw [this]; exact hv
 .cases h
theorem cell_spot {a:Addr} {v:Value} (h:w.cell? a=some v):a.spot=none:=by
 unfold World.cell? at h
 cases hs:a.spot with
 | none=>rfl
 | some s =>
   rw [hs] at h
   split at h<;>simp_all
theorem trod_int {t:TypeId} {k:IntKind} {x:Value} {m:Nat} {y:DataW H × List MemPlace} (ht:P.underlying t=some (.int k)) (h:DataW.trod enc P w 0 (fun _=>true) true m t [x]=some y):∃ n,x = .int k n/\(Lit.int k n).wf=true/\y=(.lit (.int k n),[]):=by
 cases m with
 | zero=>simp [DataW.trod] at h
 | succ m =>
   unfold DataW.trod at h
   rw [ht] at h
   cases x<;>simp at h
   rename_i k' n
   obtain ⟨⟨rfl,h2⟩,h3⟩:=h
   exact ⟨n,rfl,h2,h3.symm⟩
theorem trodAll_below {W W':World} (hl:laidOutB P=true) (hb:Below W.heap.size W W'):∀ (ts:List TypeId) (vs:List Value) (ds:List (DataW H)) (ps:List MemPlace),(∀ t∈ts,P.readableRec t=true/\t<P.types.size)->
 DataW.TrodAll enc P W 0 (fun _=>true) true ts vs ds ps->(∀ x∈ps,x.block<W.heap.size)->DataW.TrodAll enc P W' 0 (fun b=>decide (b<W.heap.size)) true ts vs ds ps
 | [],[],[],ps,_,h,_=>h
 | t :: ts,v :: vs,d :: ds,ps,ht,⟨p,q,h1,h2,h3⟩,hlt=>by
   subst h3
   exact ⟨p,q,Below.trod hl (ht t (by simp)).1 (ht t (by simp)).2 h1 hb (fun x hx=>hlt x (by simp [hx])),trodAll_below hl hb ts vs ds q (fun t' h'=>ht t' (by simp [h'])) h2 (fun x hx=>hlt x (by simp [hx])),rfl⟩
 | [],_ :: _,_,_,_,h,_=>by cases h
 | [],[],_ :: _,_,_,h,_=>by cases h
 | _ :: _,[],_,_,_,h,_=>by cases h
 | _ :: _,_ :: _,[],_,_,h,_=>by cases h
theorem absV_W {N:Nat} {v u:Value} (h:absV N v=some u):W (thW N) u v:=W_of_S (absV_S h)
end
end Go.Ew
namespace Go.Ew
open Go.Ev Go.Deep Go.RowKit
inductive FK where
 | int (k:IntKind)
 | str
 | bool
def FK.desc:FK->TypeDesc
 | .int k=>.int k
 | .str=>.string
 | .bool=>.bool
def FK.fits:FK->Value->Prop
 | .int k,v=>∃ x,v = .int k x/\k.min<=x/\x<=k.max
 | .str,v=>∃ s,v = .string s
 | .bool,v=>∃ b,v = .bool b
def fitsAll:List FK->List Value->Prop
 | [],[]=>True
 | k :: ks,v :: vs=>k.fits v/\fitsAll ks vs
 | _,_=>False
theorem fits_of_get:∀ {ks:List FK} {vs:List Value},ks.length=vs.length->(∀ (j:Nat) (k:FK) (v:Value),ks[j]? = some k->vs[j]? = some v->k.fits v)->fitsAll ks vs
 | [],[],_,_=>trivial
 | k :: ks,v :: vs,hl,h=>⟨h 0 k v rfl rfl,fits_of_get (by simpa using hl) fun j k v h1 h2=>h (j+1) k v (by simpa using h1) (by simpa using h2)⟩
 | [],_ :: _,hl,_=>by simp at hl
 | _ :: _,[],hl,_=>by simp at hl
theorem rows_kold {H:KH} {a:OA} {n k:Nat} {P:List Value->Prop} (h0:n=0->kold H k a 0=some []) (h:∀ i,i<n->∃ b o vs,a=some ⟨b,o,none⟩/\ld H ⟨b,o+i*k,none⟩ vs/\vs.length=k/\P vs) :
 ∃ L:List (List Value),L.length=n/\kold H k a n=some L.flatten/\∀ vs∈L,P vs:=by
 by_cases hn:n=0
 .subst hn
  exact ⟨[],rfl,h0 rfl,fun vs q=>by cases q⟩
 .obtain ⟨b,o,vs,e1,⟨_,en,he,hr⟩,_,_⟩:=h 0 (by omega)
  have go:∀ m,m<=n->∃ L:List (List Value),L.length=m/\rd en.cells o (m*k)=some L.flatten/\∀ vs∈L,P vs:=by
   intro m
   induction m with
   | zero=>intro _; exact ⟨[],rfl,by simp [rd],fun vs q=>by cases q⟩
   | succ m ih =>
     intro hm
     obtain ⟨L,q1,q2,q3⟩:=ih (by omega)
     obtain ⟨b',o',ws,f1,⟨_,en',f2,f3⟩,f4,f5⟩:=h m (by omega)
     rw [e1] at f1
     cases f1
     have f2:H b=some en':=f2
     have he:H b=some en:=he
     rw [he] at f2
     cases f2
     have f3:rd en.cells (o+m*k) ws.length=some ws:=f3
     rw [f4] at f3
     refine ⟨L++[ws],by simp [q1],?_,fun vs hv=>?_⟩
     .rw [Nat.add_mul,Nat.one_mul,List.flatten_append]
      have:=rd_append (m*k) k o _ _ q2 f3
      simpa using this
     .rcases List.mem_append.1 hv with z | z
      .exact q3 vs z
      .rw [List.mem_singleton.1 z]; exact f5
  obtain ⟨L,q1,q2,q3⟩:=go n (Nat.le_refl _)
  exact ⟨L,q1,by rw [e1]; exact kold_some.2 ⟨en,he,q2⟩,q3⟩
section
variable {H : Type} {enc : TypeId × Value -> H} {P : Program} {w : World}
theorem trod_fk {t:TypeId} {k:FK} {x:Value} {m:Nat} {y:DataW H × List MemPlace} (ht:P.underlying t=some k.desc) (h:DataW.trod enc P w 0 (fun _=>true) true m t [x]=some y):k.fits x/\absV w.heap.size x=some x:=by
 cases k with
 | int k =>
   obtain ⟨n,rfl,hx,_⟩:=trod_int ht h
   simp only [Lit.wf,Bool.and_eq_true,decide_eq_true_eq] at hx
   exact ⟨⟨n,rfl,hx.1,hx.2⟩,rfl⟩
 | str =>
   obtain ⟨s,hs,_⟩:=DataW.trod_string ht h
   cases hs
   exact ⟨⟨s,rfl⟩,rfl⟩
 | bool =>
   obtain ⟨b,hs,_⟩:=DataW.trod_bool ht h
   cases hs
   exact ⟨⟨b,rfl⟩,rfl⟩
theorem arg_rows {t e:TypeId} {fs:Array Field} {ks:List FK} {v:Value} {d:DataW H} {ps:List MemPlace} (ht:P.underlying t=some (.slice e)) (he:P.underlying e=some (.struct fs)) (ce:P.cellsOf e=ks.length) (hfl:fs.size=ks.length) (hk0:0<ks.length)
 (hfs:∀ (j:Nat) (f:Field) (k:FK),fs[j]? = some f->ks[j]? = some k->f.offset=j/\P.cellsOf f.type=1/\P.underlying f.type=some k.desc)
 (h:DataW.Trod enc P w 0 (fun _=>true) true t v d ps) (hf:w.noneFrozen ps) (hv:∃ a l c,v = .slice a l c) :
 ∃ a n c,absV w.heap.size v=some (.slice a n c)/\∃ L:List (List Value),L.length=n/\kold (KW w) ks.length a n=some L.flatten/\∀ vs∈L,fitsAll ks vs:=by
 obtain ⟨fuel,hd⟩:=h
 obtain ⟨a0,l0,c0,rfl⟩:=hv
 have hcs:(Value.slice a0 l0 c0).cells.toList=[.slice a0 l0 c0]:=rfl
 rw [hcs] at hd
 rcases DataW.trod_slice ht hd with ⟨h1,h2⟩ | ⟨a,len,cap,elems,rest,n,_,h1,h2,_,h3,h4,h5,h6,_⟩
 .cases h1
  exact ⟨none,0,0,rfl,[],rfl,rfl,fun vs q=>by cases q⟩
 .cases h1
  simp only [Prod.mk.injEq] at h2
  obtain ⟨rfl,rfl⟩:=h2
  have hmax:maxLen<unkU:=by decide
  by_cases hl:l0=0
  .subst hl
   have hab:absV w.heap.size (.slice (some a) 0 c0)=if a.spot=none/\a.block<w.heap.size/\c0<unkU then some (.slice (some a) 0 c0) else if 0=0 then some vague else none:=rfl
   by_cases hq:a.spot=none/\a.block<w.heap.size/\c0<unkU
   .rw [if_pos hq] at hab
    obtain ⟨b,o,sp⟩:=a
    obtain ⟨q1,q2,q3⟩:=hq
    cases q1
    have q2:b<w.heap.size:=q2
    exact ⟨_,_,_,hab,[],rfl,kold_some.2 ⟨entW w b,by unfold KW; rw [if_pos q2],by simp [rd]⟩,fun vs q=>by cases q⟩
   .rw [if_neg hq,if_pos rfl] at hab
    exact ⟨_,_,_,hab,[],rfl,rfl,fun vs q=>by cases q⟩
  .have elem:∀ i,i<l0->∃ cs y,w.cells? 0 (a.add (i*ks.length)) ks.length=some cs/\DataW.trod enc P w 0 (fun _=>true) true n e cs=some y/\y∈elems:=by
    intro i hi
    have h7:=h6 i hi
    rw [List.getElem?_eq_getElem (by omega),ce] at h7
    obtain ⟨cs,k1,k2⟩:=Option.bind_eq_some_iff.1 h7
    exact ⟨cs,_,k1,k2,List.getElem_mem _⟩
   obtain ⟨cs0,_,z1,z2,_⟩:=elem 0 (by omega)
   obtain ⟨z3,z4⟩:=cells_get z1
   have hsb:a.spot=none/\a.block<w.heap.size:=by
    match cs0,z3 with
    | [],z3=>simp at z3; omega
    | x :: _,_ =>
      have z5:=z4 0 x rfl
      have z6:=cell_spot z5
      obtain ⟨b,o,sp⟩:=a
      have:sp=none:=by simpa [Addr.add] using z6
      subst this
      rw [add_addr,add_addr] at z5
      exact ⟨rfl,(cell_lt z5).1⟩
   obtain ⟨b,o,sp⟩:=a
   obtain ⟨hsp,hb⟩:=hsb
   cases hsp
   have hcu:c0<unkU:=by omega
   refine ⟨some ⟨b,o,none⟩,l0,c0,by simp [absV,hb,hcu],rows_kold (P:=fitsAll ks) (fun z=>absurd z hl) fun i hi=>?_⟩
   obtain ⟨cs,y,k1,k2,k3⟩:=elem i hi
   obtain ⟨k4,k5⟩:=cells_get k1
   obtain ⟨xs,m,rfl,rfl,hlen,hxl,hfs'⟩:=DataW.trod_struct he k2
   have one:∀ (j:Nat) (k:FK) (v:Value),ks[j]? = some k->cs[j]? = some v->k.fits v/\∃ en,KW w b=some en/\tget en.cells (o+i*ks.length+j)=some v:=by
    intro j k v hk hv
    have hj:j<ks.length:=by
     rcases Nat.lt_or_ge j ks.length with z | z
     .exact z
     .rw [List.getElem?_eq_none z] at hk; cases hk
    have hj2:j<cs.length:=by omega
    obtain ⟨q1,q2,q3⟩:=hfs j fs[j] k (Array.getElem?_eq_getElem (by omega)) hk
    have q0:=hfs' j fs[j] (Array.getElem?_eq_getElem (by omega))
    rw [q1,q2] at q0
    have e0:(cs.drop j).take 1=[v]:=by
     rw [List.drop_eq_getElem_cons hj2]
     rw [List.getElem?_eq_getElem hj2] at hv
     cases hv; rfl
    rw [e0,List.getElem?_eq_getElem (by omega)] at q0
    obtain ⟨r1,r2⟩:=trod_fk q3 q0
    have w0:=k5 j v hv
    rw [add_addr,add_addr] at w0
    have hfz:w.frozen? ⟨b,o+i*ks.length+j,none⟩=false:=by
     refine hf b (o+i*ks.length+j) (List.mem_append_left _ ?_)
     unfold MemPlace.row
     rw [ce]
     have hlt:i*ks.length+j<l0*ks.length:=by
      have:(i+1)*ks.length<=l0*ks.length:=Nat.mul_le_mul_right _ hi
      rw [Nat.add_mul] at this
      omega
     exact List.mem_map.2 ⟨i*ks.length+j,by simp only [List.mem_range]; exact Nat.lt_of_lt_of_le hlt (Nat.mul_le_mul_right _ (by omega)),by simp [Nat.add_assoc]⟩
    exact ⟨r1,KW_cell w0 hfz r2⟩
   obtain ⟨_,en,he1,_⟩:=one 0 ks[0] cs[0] (List.getElem?_eq_getElem hk0) (List.getElem?_eq_getElem (by omega))
   refine ⟨b,o,cs,rfl,⟨rfl,en,he1,rd_some rfl fun j v hv=>?_⟩,by omega,fits_of_get (by omega) fun j k v h1 h2=>(one j k v h1 h2).1⟩
   have hj:j<cs.length:=by
    rcases Nat.lt_or_ge j cs.length with z | z
    .exact z
    .rw [List.getElem?_eq_none z] at hv; cases hv
   obtain ⟨_,en',he2,h3⟩:=one j ks[j] v (List.getElem?_eq_getElem (by omega)) hv
   rw [he1] at he2
   cases he2
   exact h3
end
end Go.Ew
namespace Go.Ew
open Go.Ev Go.Deep
theorem rows_pc:∀ {L:List (List Value)},(∀ vs∈L,fitsAll [.bool,.int .i64,.int .i64] vs)->∃ l:List Pc,l.length=L.length/\pcC l=L.flatten/\∀ p∈l,p.2.1<9223372036854775808
 | [],_=>⟨[],rfl,rfl,fun p h=>by cases h⟩
 | vs :: L,h=>by
   obtain ⟨l,h1,h2,h3⟩:=rows_pc (L:=L) fun v hv=>h v (by simp [hv])
   have h0:=h vs (by simp)
   cases vs with
   | nil=>exact h0.elim
   | cons v1 vs=>cases vs with
     | nil=>exact h0.2.elim
     | cons v2 vs=>cases vs with
       | nil=>exact h0.2.2.elim
       | cons v3 vs=>cases vs with
         | cons v4 vs=>exact h0.2.2.2.elim
         | nil =>
           obtain ⟨q1,q2,q3,_⟩:=h0
           obtain ⟨b,e1⟩:=q1
           obtain ⟨x,e2,_,x2⟩:=q2
           obtain ⟨y,e3,_,_⟩:=q3
           refine ⟨(b,x,y) :: l,by simp [h1],?_,fun p hp=>?_⟩
           .rw [e1,e2,e3,List.flatten_cons,<- h2]
            rfl
           .rcases List.mem_cons.1 hp with z | z
            .rw [z]
             have x3:IntKind.max .i64=9223372036854775807:=rfl
             rw [x3] at x2
             show x<_
             omega
            .exact h3 p z
end Go.Ew
namespace Go.Proofs.Ytkdjmdcnfbolkaa
open Go.Ev Go.Ew
namespace Va
section
variable (ok : EnvOk (env Try.prog))
include ok
theorem c4 {o n:ByteArray} {a:OA} {k c:Nat} {L:List (List Value)} {H:KH} (hn:L.length=k) (hk:kold H 3 a k=some L.flatten) (hf:∀ vs∈L,fitsAll [.bool,.int .i64,.int .i64] vs):Does (env Try.prog) 4 [.string o,.string n,.slice a k c] H fun v _=>v = .bool true:=by
 obtain ⟨l,h1,h2,h3⟩:=rows_pc hf
 subst hn
 rw [<- h2,<- h1] at hk
 rw [<- h1]
 exact c4m ok hk h3
end
end Va
end Go.Proofs.Ytkdjmdcnfbolkaa
namespace Go.Proofs.Ytkdjmdcnfbolkaa
open Go.Ev Go.Ew Go.RowKit
namespace Va
theorem tys:tysOk Try.prog tyL:=by unfold tysOk; kernel_rfl
theorem mixed:Try.prog.follows .mixedOrders=true:=by kernel_rfl
theorem own:ownKnob Try.prog.godebug=none:=by kernel_rfl
def fnB7:List Nat:=[7,8,9,11,12,13,15,16,17,18,19,21,23,25,27,28,29,30,32]
def xtB7:List (Nat × Nat):=[(14,7),(22,5),(24,6),(4294967352,1005)]
theorem fnsB7:(fnsOf Try.prog fnB7).all (fnOk (envOf Try.prog tyL fnB7 plL xtB7))=true:=by kernel_rfl
theorem okB7:EnvOk (envOf Try.prog tyL fnB7 plL xtB7):=env_okB tys mixed fnsB7 (fun g hg=>by simp [xtB7] at hg) (fun g hg=>by simp [xtB7] at hg) (fun g hg=>by simp [xtB7] at hg) (fun g hg=>by simp [xtB7] at hg) (T0:=56) (e0:=5) (by kernel_rfl) (fun g hg=>by
 have e:g=22:=by simpa [xtB7] using hg
 subst e
 exact writes) (fun g hg=>by
 have e:g=24:=by simpa [xtB7] using hg
 subst e
 exact says) (fun g hg=>by
 have e:g=14:=by simpa [xtB7] using hg
 subst e
 exact clones)
theorem hereB7:(tget (envOf Try.prog tyL fnB7 plL xtB7).ff 7).isSome=true:=by kernel_rfl
set_option maxRecDepth 100000 in
theorem runsB7:saysTrue (callA (envOf Try.prog tyL fnB7 plL xtB7) (ev (envOf Try.prog tyL fnB7 plL xtB7) 100000) 7 [] ⟨.nil,0⟩)=true:=by kernel_rfl
theorem walkB7 (w:World):Calls Try.prog 7 #[] w fun e w'=>e = .returned (.bool true)/\Below w.heap.size w w':=by
 obtain ⟨fn,hfn⟩:=Option.isSome_iff_exists.1 hereB7
 exact law_true okB7 hfn (by unfold unkU; omega) runsB7 w
theorem nameB7 : (Try.f7.name == "runtime.NumGoroutine") = false := by kernel_rfl
theorem bodyB7:Try.f7.body.isNone=false:=by kernel_rfl
theorem enterB7 (w:World):(callFunc 7 #[]).run Try.prog w = .ok (.enter 7 #[]) w:=by
 simp only [callFunc,Sem.run_bind,run_program,Result.andThen_ok,Try.func7,nameB7,bodyB7,Bool.false_eq_true,if_false,Sem.run_pure]
theorem fns:(fnsOf Try.prog fnL).all (fnOk (env Try.prog))=true:=by kernel_rfl
theorem ok:EnvOk (env Try.prog):=env_okB tys mixed fns (fun g hg=>by simp [xtL] at hg) (fun g hg=>by simp [xtL] at hg) (fun g hg=>by simp [xtL] at hg) (fun g hg=>by
 have e:g=7:=by simpa [xtL] using hg
 subst e
 exact fun w=>⟨enterB7 w,walkB7 w⟩) (T0:=56) (e0:=5) (by kernel_rfl) (fun g hg=>by
 have e:g=22:=by simpa [xtL] using hg
 subst e
 exact writes) (fun g hg=>by
 have e:g=24:=by simpa [xtL] using hg
 subst e
 exact says) (fun g hg=>by
 have e:g=14:=by simpa [xtL] using hg
 subst e
 exact clones)
end Va
end Go.Proofs.Ytkdjmdcnfbolkaa
