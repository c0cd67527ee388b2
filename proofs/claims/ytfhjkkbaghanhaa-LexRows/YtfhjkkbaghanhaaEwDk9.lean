import Derived.Test.YtfhjkkbaghanhaaEwDk8
import Derived.Test.YtfhjkkbaghanhaaEwVc9
set_option linter.unusedVariables false
set_option linter.unusedSimpArgs false
namespace Go.Ew
open Go.Ev Go.Deep
theorem clsN_le:∀ l:List It,clsN l≤l.length
 | []=>Nat.le_refl _
 | i :: l=>by
   have:=clsN_le l
   simp only [clsN,List.length_cons]
   split<;>omega
theorem clsAll_app:∀ a b:List (List It),clsAll (a++b)=clsAll a+clsAll b
 | [],b=>by simp [clsAll]
 | i :: a,b=>by
   simp only [List.cons_append,clsAll,clsAll_app a b]
   omega
theorem clsAll_le:∀ (l:List (List It)),(∀ x∈l,x.length≤1000)→clsAll l≤1000*l.length
 | [],_=>Nat.le_refl _
 | i :: l,h=>by
   have h1:=clsAll_le l fun x hx=>h x (by simp [hx])
   have h2:=clsN_le i
   have h3:=h i (by simp)
   simp only [clsAll,List.length_cons]
   omega
theorem lg_eq (g:Nat→Int) (L:Nat) (s:ByteArray):∀ (f i p:Nat) (r:Int × Int × Bool),lg g L s f i p r=dLg g L s f i p r
 | 0,i,p,r=>rfl
 | f+1,i,p,r=>by
   rw [lg,dLg]
   split
   ·rfl
   ·split
    ·rfl
    ·exact lg_eq g L s f _ _ _
theorem lgR_eq (g:Nat→Int) (L:Nat) (s:ByteArray):lgR g L s=dLgR g L s:=by
 unfold lgR dLgR
 split
 ·rfl
 ·exact lg_eq g L s _ _ _ _
theorem IC.mono {H H':KH} {a:OA} {n:Nat} {g:Nat→Int} (h:IC H a n g) (hl:Le H H'):IC H' a n g:=by
 rcases h with h | ⟨b,o,e,h1,h2,h3⟩
 ·exact .inl h
 ·exact .inr ⟨b,o,e,h1,hl b e h2,h3⟩
theorem KsOk.pos {S:List St} {ts:List ByteArray} (h:KsOk S ts):0<ts.length:=by
 obtain ⟨bs,q,_⟩:=h.fst
 rcases Nat.eq_zero_or_pos ts.length with z | z
 ·rw [List.eq_nil_of_length_eq_zero z] at q; cases q
 ·exact z
theorem GoodN.rng {S:List St} {ts:List ByteArray} {v:Int} {Z:List Nat} (h:GoodN S ts v Z) : -1≤v∧v<ts.length:=by
 rcases h with ⟨_,h⟩ | ⟨_,k,bs,h1,h2,_⟩
 ·omega
 ·have hk:k<ts.length:=by
   rcases Nat.lt_or_ge k ts.length with z | z
   ·exact z
   ·rw [List.getElem?_eq_none z] at h2; cases h2
  omega
theorem rows_spec {pats:List (List It)} (hpar:∀ l∈pats,∃ s,parseR s=some l) (hp:pats.length≤50) {ts:List ByteArray} {g:Nat→Int} (hk:KsOk (nfaM pats) ts) (hC:RowsC (nfaM pats) ts g ts.length) {s:ByteArray} (hs:s.size≤1000000) :
 ∃ k j:Nat,lgR g ts.length s=(((k:Nat):Int),((j:Nat):Int),decide (0<j))∧LgSpec (Has pats s) s.size (((k:Nat):Int),((j:Nat):Int),decide (0<j))∧j≤s.size:=by
 obtain ⟨g1,g2,g3⟩:=good_of hpar
 obtain ⟨keys,h1,h2⟩:=hC.rows hk
 have hsp:=nfaL_spec g3 (by omega) hs
 have e:lgR g ts.length s=nfaL (nfaM pats) s:=by rw [lgR_eq,← h1,dLgR_nfa h2]
 rw [← e] at hsp
 generalize lgR g ts.length s=r at hsp
 cases hsp with
 | no h=>exact ⟨0,0,rfl,.no h,by omega⟩
 | yes k j q1 q2 q3 q4 q5 =>
   have hd:decide (0<j)=true:=decide_eq_true (by omega)
   rw [← hd]
   exact ⟨k,j,rfl,by rw [hd]; exact .yes k j q1 q2 q3 q4 q5,q2⟩
end Go.Ew
namespace Go.Proofs.Ytfhjkkbaghanhaa
open Go.Ev Go.Ew
namespace Va
section
variable (ok : EnvOk (env Try.prog))
include ok
theorem c11 {pats:List (List It)} {a:OA} {c:Nat} {H:KH} {Q:PQ} (hP:PtR H pats a) (hp:pats.length≤50) (hl:∀ l∈pats,l.length≤1000)
 (hq:Q (.bool (decide (clsAll pats≤8))) H):Does (env Try.prog) 11 [.slice a pats.length c] H Q:=by
 obtain ⟨cs,hc,hcs⟩:=hP
 refine fn11 ok ?_
 unfold vc11 vc11_L2
 refine ⟨fun n3 a4 n5 n6 x7 x8 H9=>a4=a∧n5=pats.length∧H9=H∧∃ i:Nat,x8=i∧i≤pats.length∧n3=pats.length-i∧x7=(clsAll (pats.take i):Nat),⟨pats.length,rfl,rfl,rfl,0,rfl,by omega,rfl,rfl⟩,?_⟩
 rintro n3 a4 n5 n6 x7 x8 H9 ⟨rfl,rfl,rfl,i,rfl,hi,rfl,rfl⟩
 refine ⟨fun hlt=>?_,fun hge=>?_⟩
 ·have hlt:i<pats.length:=by have:=of_decide_eq_true hlt; omega
  have hpi:pats[i]? = some pats[i]:=by simp [hlt]
  have hli:=hl _ (List.getElem_mem hlt)
  have hb:=clsAll_le (pats.take i) fun x hx=>hl x (List.mem_of_mem_take hx)
  rw [List.length_take] at hb
  have e0:Int.toNat ((i:Nat):Int)=i:=by omega
  obtain ⟨ai,ci,q1,q2⟩:=hcs.get hpi
  obtain ⟨b1,o1,z1,r1⟩:=rowAddr hc (by omega)
  have g1:=r1 (i*1) 1 (by omega)
  have eg:(cs.drop (i*1)).take 1=[.slice ai pats[i].length ci]:=by rw [Nat.mul_one]; exact sub_eq_one q1
  rw [eg] at g1
  unfold vc11_L1
  refine ⟨fun m3 a4' n5 n6 x7 x8 x9 H10=>a4'=a4∧n5=pats.length∧H10=H9∧x8=(i:Nat)∧∃ k:Nat,x9=k∧k≤pats[i].length∧m3=pats[i].length-k∧x7=((clsAll (pats.take i)+clsN (pats[i].take k):Nat):Int),⟨pats[i].length,rfl,rfl,rfl,rfl,0,rfl,by omega,rfl,by simp [clsN]⟩,?_⟩
  rintro m3 a4' n5 n6 x7 x8 x9 H10 ⟨rfl,rfl,rfl,rfl,k,rfl,hk,rfl,rfl⟩
  rw [e0]
  refine ⟨⟨by omega,by omega⟩,b1,o1,z1,ai,_,ci,g1,fun hlt2=>?_,fun hge2=>?_⟩
  ·have hlt2:k<pats[i].length:=by have:=of_decide_eq_true hlt2; omega
   have e1:Int.toNat ((k:Nat):Int)=k:=by omega
   have hki:pats[i][k]? = some pats[i][k]:=by simp [hlt2]
   obtain ⟨b2,o2,ar,cr,hit⟩:=q2.at (op:=pats[i][k].1) (rg:=pats[i][k].2) hki
   have hcl:=clsN_le (pats[i].take k)
   rw [List.length_take] at hcl
   have hsucc:clsN (pats[i].take (k+1))=clsN (pats[i].take k)+if pats[i][k].1=1 then 1 else 0:=by
    rw [List.take_succ_eq_append_getElem hlt2,clsN_app]; simp [clsN]
   have wk:IntKind.wrap .i64 (((k:Nat):Int)+1)=((k+1:Nat):Int):=by rw [wrap64 (by omega) (by omega)]; omega
   rw [e1,wk]
   refine ⟨⟨by omega,by omega⟩,b1,o1,z1,ai,_,ci,g1,⟨by omega,by omega⟩,b2,o2,hit.eq,rfl,_,hit.c0,fun q=>?_,fun q=>?_⟩
   ·have q:=of_decide_eq_true q
    rw [if_pos q] at hsucc
    exact ⟨pats[i].length-(k+1),by omega,rfl,rfl,rfl,rfl,k+1,rfl,by omega,rfl,by rw [wrap64 (by omega) (by omega),hsucc]; omega⟩
   ·have q:=of_decide_eq_false q
    rw [if_neg q] at hsucc
    exact ⟨pats[i].length-(k+1),by omega,rfl,rfl,rfl,rfl,k+1,rfl,by omega,rfl,by rw [hsucc]; rfl⟩
  ·have hge2:k=pats[i].length:=by have:=of_decide_eq_false hge2; omega
   subst hge2
   refine ⟨pats.length-(i+1),by omega,rfl,rfl,rfl,i+1,by rw [wrap64 (by omega) (by omega)]; omega,by omega,rfl,?_⟩
   rw [List.take_length,List.take_succ_eq_append_getElem hlt,clsAll_app]
   simp [clsAll]
 ·have hge:i=pats.length:=by have:=of_decide_eq_false hge; omega
  subst hge
  rw [List.take_length]
  have e:decide (((clsAll pats:Nat):Int)≤8)=decide (clsAll pats≤8):=by
   by_cases h:clsAll pats≤8
   ·rw [decide_eq_true h,decide_eq_true (by omega)]
   ·rw [decide_eq_false h,decide_eq_false (by omega)]
  rw [e]
  exact hq
theorem c9p {pats:List (List It)} (hpar:∀ l∈pats,∃ s,parseR s=some l) (hp:pats.length≤50) {a:OA} {c:Nat} {H:KH} {Q:PQ} (hst:SsN H (nfaM pats) a)
 (hq:∀ ra rc ts g H',Le H H'→IC H' ra (ts.length*257) g→KsOk (nfaM pats) ts→RowsC (nfaM pats) ts g ts.length→ts.length≤300→Q (.slice ra ts.length rc) H')
 (hmany:∀ H',Le H H'→8<clsAll pats→Q (.slice none 0 0) H'):Does (env Try.prog) 9 [.slice a (nfaM pats).length c] H Q:=by
 obtain ⟨g1,_,_⟩:=good_of hpar
 obtain ⟨h1,h2⟩:=nfaM_small g1 hp
 exact c9 ok hst (nfaM_byte hpar) (by unfold nfaM; simp) h1 h2 hq fun ts H' l1 l2 l3=>hmany H' l1 (few_rows hpar l2 l3)
theorem c13p {pats:List (List It)} (hpar:∀ l∈pats,∃ s,parseR s=some l) (hp:pats.length≤50) {ts:List ByteArray} {g:Nat→Int} (hk:KsOk (nfaM pats) ts) (hC:RowsC (nfaM pats) ts g ts.length)
 {a:OA} {c:Nat} {s:ByteArray} {H:KH} {Q:PQ} (hI:IC H a (ts.length*257) g) (hs:s.size≤1000000)
 (hq:∀ k j:Nat,LgSpec (Has pats s) s.size (((k:Nat):Int),((j:Nat):Int),decide (0<j))→j≤s.size→Q (.tuple #[.int .i64 ((k:Nat):Int),.int .i64 ((j:Nat):Int),.bool (decide (0<j))]) H):Does (env Try.prog) 13 [.slice a ts.length c,.string s] H Q:=by
 obtain ⟨k,j,h1,h2,h3⟩:=rows_spec hpar hp hk hC hs
 refine c13 ok hI (by omega) ?_
 rw [h1]
 exact hq k j h2 h3
omit ok in
theorem few_len {pats:List (List It)} (hpar:∀ l∈pats,∃ s,parseR s=some l):∀ l∈pats,l.length≤1000:=fun l hl=>by
 have:=((good_of hpar).1 l hl).ln
 omega
theorem c3 {a b:OA} {n m c d:Nat} {p2:ByteArray} {H:KH} (h0:U8 H a n) (h1:U8 H b m):Does (env Try.prog) 3 [.slice a n c,.slice b m d,.string p2] H fun v _=>v = .bool true:=by
 refine fn3 ok (c7 ⟨true,rfl,fun h=>(by cases h),fun _=>⟨fun _=>rfl,fun l0=>⟨fun _=>rfl,fun l1=>⟨fun _=>rfl,fun l2=>?_⟩⟩⟩⟩)
 have l0:n≤60:=by have:=of_decide_eq_false l0; omega
 have l1:m≤20:=by have:=of_decide_eq_false l1; omega
 have l2:p2.size≤12:=by have:=of_decide_eq_false l2; omega
 refine c8 ok h0 (by omega) fun pats a' c' X H2 cs hpl hpar hHX hX hG hP hout=>⟨_,_,_,rfl,?_⟩
 have hPR:PtR H2 pats a':=⟨cs,hG.row,hP.mono hX⟩
 refine c11p ok hPR hpar (by omega) fun a8 c10 H7 hl7 hst=>⟨_,_,_,rfl,?_⟩
 refine c9p ok hpar (by omega) hst (fun ra rc ts g H12 hl12 hI hks hC h300=>⟨_,_,_,rfl,?_⟩) fun H12 hl12 hmany=>⟨_,_,_,rfl,?_⟩
 ·have hpos:=hks.pos
  refine ⟨fun q=>absurd (of_decide_eq_true q) (by omega),fun _=>⟨fun q=>absurd (of_decide_eq_true q) (by omega),fun _=>?_⟩⟩
  refine c12 ok (h1.mono (((hHX.trans hX).trans hl7).trans hl12)) (by omega) fun s H23 hsz _ hl23=>⟨s,rfl,fun nw hnw=>?_⟩
  have hPR23:=hPR.mono ((hl7.trans hl12).trans hl23)
  have hI23:=hI.mono hl23
  have hln:=Le.new (e:=mkEnt [Value.string s,Value.string p2] 0) hnw
  have hrow:kold (H23.new nw (mkEnt [Value.string s,Value.string p2] 0)) 1 (some ⟨nw,0,none⟩) 2=some [.string s,.string p2]:=lit_kold (if_pos rfl) rfl
  unfold vc3_L1
  refine ⟨fun n3 a4 n5 n6 a7 n8 n9 a10 n11 n12 x13 H14=>a4=a'∧n5=pats.length∧n6=c'∧a7=ra∧n8=ts.length∧n9=rc∧a10=some ⟨nw,0,none⟩∧n11=2∧Le (H23.new nw (mkEnt [Value.string s,Value.string p2] 0)) H14∧∃ i:Nat,x13=i∧i≤2∧n3=2-i,
   ⟨2,rfl,rfl,rfl,rfl,rfl,rfl,rfl,rfl,Le.refl _,0,rfl,by omega,rfl⟩,?_⟩
  rintro n3 a4 n5 n6 a7 n8 n9 a10 n11 n12 x13 H14 ⟨rfl,rfl,rfl,rfl,rfl,rfl,rfl,rfl,hle,i,rfl,hi,rfl⟩
  refine ⟨fun hlt=>?_,fun hge=>rfl⟩
  have hlt:i<2:=by have:=of_decide_eq_true hlt; omega
  have e0:Int.toNat ((i:Nat):Int)=i:=by omega
  have wi:IntKind.wrap .i64 (((i:Nat):Int)+1)=((i+1:Nat):Int):=by rw [wrap64 (by omega) (by omega)]; omega
  rw [e0,wi]
  obtain ⟨b1,o1,e1,r1⟩:=rowAddr hrow (by omega)
  have hw:∃ w:ByteArray,w.size≤100∧([Value.string s,Value.string p2].drop (i*1)).take 1=[.string w]:=by
   rcases Nat.lt_or_ge i 1 with u | u
   ·have:i=0:=by omega
    subst this
    exact ⟨s,by omega,rfl⟩
   ·have:i=1:=by omega
    subst this
    exact ⟨p2,by omega,rfl⟩
  obtain ⟨w,hws,hwe⟩:=hw
  have g1:=r1 (i*1) 1 (by omega)
  rw [hwe] at g1
  refine ⟨⟨by omega,by omega⟩,b1,o1,e1,w,Le.ld hle g1,c13p ok hpar (by omega) hks hC (hI23.mono (hln.trans hle)) (by omega) fun k j hsp hj=>⟨_,_,_,rfl,⟨by omega,by omega⟩,b1,o1,e1,w,Le.ld hle g1,c14 ok hpar (by omega) (hPR23.mono (hln.trans hle)) hws fun k2 j2 H13 hl13 hsp2=>⟨_,_,_,rfl,?_⟩⟩⟩
  have hsame:=hsp.same hsp2
  injection hsame with s1 s2
  injection s2 with s2 s3
  rw [← s1,← s2,← s3]
  have hgo:∃ n17:Nat,n17<2-i∧(a4=a4∧pats.length=pats.length∧n6=n6∧a7=a7∧ts.length=ts.length∧n9=n9∧(some ⟨nw,0,none⟩:OA)=some ⟨nw,0,none⟩∧2=2∧Le (H23.new nw (mkEnt [Value.string s,Value.string p2] 0)) H13∧∃ i':Nat,((i+1:Nat):Int)=i'∧i'≤2∧n17=2-i') :=
   ⟨2-(i+1),by omega,rfl,rfl,rfl,rfl,rfl,rfl,rfl,rfl,hle.trans hl13,i+1,rfl,by omega,rfl⟩
  have hk0:decide (0<j)=false→((k:Nat):Int)=0:=fun q=>by
   rw [q] at hsp
   cases hsp with
   | no h=>rfl
  refine ⟨fun q=>by simp at q,fun _=>⟨fun q=>by simp at q,fun _=>⟨fun hb=>⟨fun q=>by simp at q,fun _=>⟨fun q=>(by rw [hb] at q; cases q),fun _=>hgo⟩⟩,fun hb=>⟨fun _=>⟨fun q=>?_,fun _=>hgo⟩,fun _=>hgo⟩⟩⟩⟩
  have:=of_decide_eq_true q
  exact absurd (hk0 hb) this
 ·refine ⟨fun _=>⟨fun _=>?_,fun q=>absurd rfl (of_decide_eq_false q)⟩,fun q=>absurd (of_decide_eq_false q) (by omega)⟩
  refine c11 ok (hPR.mono (hl7.trans hl12)) (by omega) (few_len hpar) ⟨_,rfl,?_⟩
  rw [decide_eq_false (by omega)]
  rfl
end
end Va
end Go.Proofs.Ytfhjkkbaghanhaa
