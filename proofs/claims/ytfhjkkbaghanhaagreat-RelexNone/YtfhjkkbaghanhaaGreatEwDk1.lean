import Derived.Test.YtfhjkkbaghanhaaGreatEwDf1
import Derived.Test.YtfhjkkbaghanhaaGreatEwS1
import Derived.Test.YtfhjkkbaghanhaaGreatEwVc7
set_option linter.unusedVariables false
set_option linter.unusedSimpArgs false
namespace Go.Ew
open Go.Ev Go.Deep
theorem bytes_loop (bs:ByteArray):∀ (n i:Nat) (r:List UInt8),n=bs.size-i→ByteArray.toList.loop bs i r=r.reverse++bs.data.toList.drop i
 | 0,i,r,h=>by
   rw [ByteArray.toList.loop,if_neg (by omega),List.drop_eq_nil_of_le (by show bs.size≤i; omega),List.append_nil]
 | n+1,i,r,h=>by
   have hi:i<bs.size:=by omega
   have hl:i<bs.data.toList.length:=hi
   rw [ByteArray.toList.loop,if_pos hi,bytes_loop bs n (i+1) _ (by omega),List.drop_eq_getElem_cons hl]
   have:bs.get! i=bs.data.toList[i]:=by
    have hd:i<bs.data.size:=hi
    show bs.data[i]! = _
    rw [getElem!_pos bs.data i hd]
    simp
   rw [this]
   simp
theorem bytes_list (bs:ByteArray):bs.toList=bs.data.toList:=by
 unfold ByteArray.toList
 rw [bytes_loop bs _ 0 [] rfl]
 simp
theorem strEq_iff {x y:ByteArray}:strEq x y=true↔x=y:=by
 unfold strEq
 rw [bytes_list,bytes_list,beq_iff_eq]
 constructor
 ·intro h
  obtain ⟨⟨a⟩⟩:=x
  obtain ⟨⟨b⟩⟩:=y
  have h:a=b:=h
  rw [h]
 ·intro h; rw [h]
theorem strB_inj {a b:List Int} (ha:∀ x∈a,0≤x∧x≤255) (hb:∀ x∈b,0≤x∧x≤255) (h:strB a=strB b):a=b:=by
 have hl:a.length=b.length:=by rw [← strB_size a,h,strB_size]
 apply List.ext_getElem?
 intro i
 by_cases hi:i<a.length
 ·have e1:a[i]? = some a[i]:=by simp [hi]
  have e2:b[i]? = some (b[i]'(by omega)):=by simp [hl ▸ hi]
  have h1:=strB_at e1 (ha _ (List.getElem_mem hi))
  have h2:=strB_at e2 (hb _ (List.getElem_mem (by omega)))
  rw [h] at h1
  rw [e1,e2,← h1,← h2]
 ·rw [List.getElem?_eq_none (by omega),List.getElem?_eq_none (by omega)]
def txE:List ByteArray→Nat→List (Value × Value)
 | [],_=>[]
 | s :: l,i=>(.agg #[.string s],.int .i64 ((i:Nat):Int)) :: txE l (i+1)
theorem txE_app:∀ (l:List ByteArray) (s:ByteArray) (i:Nat),txE (l++[s]) i=txE l i++[(.agg #[.string s],.int .i64 ((i+l.length:Nat):Int))]
 | [],s,i=>rfl
 | t :: l,s,i=>by
   simp only [List.cons_append,txE,txE_app l s (i+1),List.length_cons]
   rw [show i+1+l.length=i+(l.length+1) by omega]
theorem eq_tx {P:Program} {t:TypeId} (hk:∀ s:ByteArray,strK P t [.string s]=true) (s u:ByteArray):srun P (Op.equal t (.agg #[.string s]) (.agg #[.string u]))=some (strEq s u):=by
 have h:eqCs [.string s] [.string u]=some (strEq s u&&true):=rfl
 rw [Bool.and_true] at h
 exact (strK_run (op:=.eql) (x:=.tmp 0) (y:=.tmp 0) (xs:=#[.string s]) (ys:=#[.string u]) (hk s) h).1
theorem find_tx {P:Program} {t:TypeId} (hk:∀ s:ByteArray,strK P t [.string s]=true) (u:ByteArray):∀ (l:List ByteArray) (i j k:Nat),l[k]? = some u→(∀ j,j<k→l[j]?≠some u)→kFind P t (.agg #[.string u]) (txE l i) j=some (some (j+k,.int .i64 ((i+k:Nat):Int)))
 | [],i,j,k,h,_=>by simp at h
 | s :: l,i,j,0,h,_=>by
   have h:s=u:=by simpa using h
   subst h
   have he:strEq s s=true:=strEq_iff.2 rfl
   simp only [txE,kFind,eq_tx hk,he]
   rfl
 | s :: l,i,j,k+1,h,hn=>by
   have hs:strEq u s=false:=by
    cases hq:strEq u s with
    | false=>rfl
    | true=>exact absurd (by rw [strEq_iff.1 hq]; rfl) (hn 0 (by omega))
   have:=find_tx hk u l (i+1) (j+1) k (by simpa using h) fun q hq=>by
    have:=hn (q+1) (by omega)
    simpa using this
   simp only [txE,kFind,eq_tx hk,hs,this]
   rw [show j+1+k=j+(k+1) by omega,show i+1+k=i+(k+1) by omega]
theorem find_no {P:Program} {t:TypeId} (hk:∀ s:ByteArray,strK P t [.string s]=true) (u:ByteArray):∀ (l:List ByteArray) (i j:Nat),u∉l→kFind P t (.agg #[.string u]) (txE l i) j=some none
 | [],i,j,_=>rfl
 | s :: l,i,j,h=>by
   have hs:strEq u s=false:=by
    cases hq:strEq u s with
    | false=>rfl
    | true=>exact absurd (by rw [strEq_iff.1 hq]; simp) h
   have:=find_no hk u l (i+1) (j+1) fun z=>h (by simp [z])
   simp only [txE,kFind,eq_tx hk,hs,this]
end Go.Ew
namespace Go.Proofs.YtfhjkkbaghanhaaGreat
open Go.Ev Go.Ew
namespace Va
theorem key74 (s:ByteArray):strK Tryz.prog 97 [.string s]=true:=by kernel_rfl
theorem good74 (b:Bool) (s:ByteArray):keyGood Tryz.prog b 97 (.agg #[.string s])=true:=by cases b<;>kernel_rfl
theorem zero3:srun Tryz.prog (zeroValue 3)=some (.int .i64 0):=by kernel_rfl
end Va
end Go.Proofs.YtfhjkkbaghanhaaGreat
set_option linter.unusedVariables false
set_option linter.unusedSimpArgs false
namespace Go.Ew
open Go.Ev Go.Deep
theorem mid {A B:List Value} {x:Value} {n:Nat} (h:A.length=n):((A++[x]++B).drop n).take 1=[x]:=by
 subst h
 rw [List.append_assoc,List.drop_left]
 rfl
theorem tx_first {α:Type} [DecidableEq α] {u:α}:∀ {l:List α},u∈l→∃ k:Nat,l[k]? = some u∧∀ j:Nat,j<k→l[j]?≠some u
 | [],h=>by cases h
 | s :: l,h=>by
   by_cases hs:s=u
   ·exact ⟨0,by simp [hs],fun j hj=>by omega⟩
   ·have h:u∈l:=by
     rcases List.mem_cons.1 h with z | z
     ·exact absurd z.symm hs
     ·exact z
    obtain ⟨k,h1,h2⟩:=tx_first h
    refine ⟨k+1,by simpa using h1,fun j hj=>?_⟩
    cases j with
    | zero=>simpa using hs
    | succ j=>simpa using h2 j (by omega)
def keyC (ts:List ByteArray):List Value:=ts.map .string
theorem keyC_at {ts:List ByteArray} {k:Nat} {t:ByteArray} (h:ts[k]? = some t):((keyC ts).drop (k*1)).take 1=[.string t]:=dropTake rfl fun j hj=>by
 match j,hj with
 | 0,_=>simp [keyC,h]
abbrev KT1:TI:=⟨1,16,true,3,0,0,[(0,1)],[.string (ByteArray.mk #[])]⟩
structure KyB (H:KH) (w mp:Nat) (S:List St) (a:OA) (c:Nat) (tf:Nat→Bool) (ka:OA) (kc:Nat) (ex:List Value) (ts:List ByteArray):Prop where
 pt:∃ e,H w=some e∧wrB e=true∧rd e.cells 0 259=some ([.slice a S.length c]++boolsR 256 tf++[.map (some mp)]++[.slice ka ts.length kc])
 es:H mp=some (mpE (txE ts 0))
 row:Gr H 1 ka ts.length kc (keyC ts) ex
 d1:w≠mp
 d2:blk ka≠some w
 d3:blk ka≠some mp
section
variable {H : KH} {w mp : Nat} {S : List St} {a : OA} {c : Nat} {tf : Nat → Bool} {ka : OA} {kc : Nat} {ex : List Value} {ts : List ByteArray}
theorem KyB.all (h:KyB H w mp S a c tf ka kc ex ts):ld H ⟨w,0,none⟩ ([.slice a S.length c]++boolsR 256 tf++[.map (some mp)]++[.slice ka ts.length kc]):=by
 obtain ⟨e,h1,h2,h3⟩:=h.pt
 exact ⟨rfl,e,h1,by simpa [boolsR_len] using h3⟩
theorem KyB.c0 (h:KyB H w mp S a c tf ka kc ex ts):ld H ⟨w,0+0,none⟩ [.slice a S.length c]:=by
 have:=ldSub h.all 0 1 (by simp [boolsR_len])
 simpa using this
theorem KyB.c257 (h:KyB H w mp S a c tf ka kc ex ts):ld H ⟨w,257,none⟩ [.map (some mp)]:=by
 have:=ldSub h.all 257 1 (by simp [boolsR_len])
 rw [mid (n:=257) (x:=Value.map (some mp)) (A:=[Value.slice a S.length c]++boolsR 256 tf) (B:=[Value.slice ka ts.length kc]) (by simp [boolsR_len])] at this
 simpa using this
theorem KyB.c258 (h:KyB H w mp S a c tf ka kc ex ts):ld H ⟨w,258,none⟩ [.slice ka ts.length kc]:=by
 have:=ldSub h.all 258 1 (by simp [boolsR_len])
 have e:([Value.slice a S.length c]++boolsR 256 tf++[.map (some mp)]++[.slice ka ts.length kc])=([Value.slice a S.length c]++boolsR 256 tf++[.map (some mp)])++[.slice ka ts.length kc]++[]:=by simp
 rw [e,mid (by simp [boolsR_len])] at this
 simpa using this
theorem KyB.turn (h:KyB H w mp S a c tf ka kc ex ts) {i:Nat} (hi:i<256):ld H ⟨w,0+1+i*1,none⟩ [.bool (tf i)]:=by
 have:=ldSub h.all (1+i) 1 (by simp [boolsR_len]; omega)
 have e:([Value.slice a S.length c]++boolsR 256 tf++[.map (some mp)]++[.slice ka ts.length kc])=([Value.slice a S.length c]++(boolsR 256 tf).take i)++[.bool (tf i)]++((boolsR 256 tf).drop (i+1)++[.map (some mp)]++[.slice ka ts.length kc]):=by
  have h2:boolsR 256 tf=(boolsR 256 tf).take i++[.bool (tf i)]++(boolsR 256 tf).drop (i+1):=by
   rw [List.append_assoc]
   have hl:i<(boolsR 256 tf).length:=by rw [boolsR_len]; exact hi
   have h3:[.bool (tf i)]++(boolsR 256 tf).drop (i+1)=(boolsR 256 tf).drop i:=by
    rw [List.drop_eq_getElem_cons hl]
    simp [boolsR]
   rw [h3,List.take_append_drop]
  conv=>lhs; rw [h2]
  simp only [List.append_assoc]
 rw [e,mid (by simp [boolsR_len]; omega)] at this
 have e2:0+(1+i)=0+1+i*1:=by omega
 rw [e2] at this
 exact this
end
def KIn (BB:List Nat) (H:KH) (w:Nat) (S:List St) (a:OA) (c:Nat) (tf:Nat→Bool) (ts:List ByteArray):Prop:=∃ mp ka kc ex,KyB H w mp S a c tf ka kc ex ts∧BB=w :: mp :: (blk ka).toList
section
variable {BB : List Nat} {H H' : KH} {w : Nat} {S : List St} {a : OA} {c : Nat} {tf : Nat → Bool} {ts : List ByteArray}
theorem KIn.known (h:KIn BB H w S a c tf ts):∀ b∈BB,∃ e,H b=some e:=by
 obtain ⟨mp,ka,kc,ex,hs,rfl⟩:=h
 intro b hb
 rcases List.mem_cons.1 hb with z | hb
 ·obtain ⟨e,h1,_⟩:=hs.pt; exact ⟨e,by rw [z]; exact h1⟩
 rcases List.mem_cons.1 hb with z | hb
 ·exact ⟨_,by rw [z]; exact hs.es⟩
 ·have:blk ka=some b:=by simpa using hb
  exact hs.row.at' this
theorem KIn.agree (h:KIn BB H w S a c tf ts) (hk:∀ k e,k∈BB→H k=some e→H' k=some e):KIn BB H' w S a c tf ts:=by
 obtain ⟨mp,ka,kc,ex,hs,rfl⟩:=h
 obtain ⟨e1,a1,a2,a3⟩:=hs.pt
 exact ⟨mp,ka,kc,ex,⟨⟨e1,hk w e1 (by simp) a1,a2,a3⟩,hk mp _ (by simp) hs.es,hs.row.agree fun k e z1 z2=>hk k e (by simp [z1]) z2,hs.d1,hs.d2,hs.d3⟩,rfl⟩
theorem KIn.up (h:KIn BB H w S a c tf ts) (hl:Le H H'):KIn BB H' w S a c tf ts:=h.agree fun k e _ q=>hl k e q
theorem KIn.bds (h:KIn BB H w S a c tf ts) (hst:SsN H S a):BdS H w S a c:=⟨hst,fun H' hl=>by
 obtain ⟨mp,ka,kc,ex,hs,rfl⟩:=h
 exact hl.ld hs.c0⟩
end
theorem SsN.mono {X Y:KH} {S:List St} {a:OA} (hl:Le X Y) (h:SsN X S a):SsN Y S a:=by
 obtain ⟨cs,h1,h2⟩:=h
 exact ⟨cs,hl.kold h1,h2.mono hl⟩
end Go.Ew
namespace Go.Proofs.YtfhjkkbaghanhaaGreat
open Go.Ev Go.Ew
namespace Va
section
variable (ok : EnvOk (env Tryz.prog))
include ok
theorem c75 {BB:List Nat} {H:KH} {w:Nat} {S:List St} {a:OA} {c:Nat} {tf:Nat→Bool} {ts:List ByteArray} {u:ByteArray} {Q:PQ} (h:KIn BB H w S a c tf ts) (hl:ts.length≤900)
 (h1:∀ k,ts[k]? = some u→Q (.int .i64 ((k:Nat):Int)) H)
 (h2:u∉ts→∀ BB' H',KIn BB' H' w S a c tf (ts++[u])→Fr1 BB BB' H H'→Q (.int .i64 ((ts.length:Nat):Int)) H'):Does (env Tryz.prog) 75 [.pointer (some ⟨w,257,none⟩),.agg #[.string u]] H Q:=by
 obtain ⟨mp,ka,kc,ex,hs,rfl⟩:=h
 refine fn75 ok ⟨trivial,rfl,mp,hs.c257,txE ts 0,⟨hs.es⟩,?_⟩
 by_cases hu:u∈ts
 ·obtain ⟨k,hk,hmin⟩:=tx_first hu
  have hf:=find_tx key74 u ts 0 0 k hk hmin
  rw [Nat.zero_add] at hf
  exact .inr ⟨k,⟨good74 _ _,_,hf⟩,(fun z=>by cases z),fun _=>h1 k hk⟩
 refine .inl ⟨⟨good74 _ _,find_no key74 u ts 0 0 hu,zero3⟩,fun _=>?_,(fun z=>by cases z)⟩
 obtain ⟨ew,w1,w2,w3⟩:=hs.pt
 have heq:txE (ts++[u]) 0=txE ts 0++[(.agg #[.string u],.int .i64 ((ts.length:Nat):Int))]:=by rw [txE_app,Nat.zero_add]
 have kp0:∀ k e,H k=some e→k≠mp→(H.new mp (mpE (txE (ts++[u]) 0))) k=some e:=fun k e q hk=>by simp only [KH.new]; rw [if_neg hk]; exact q
 have hw1:=kp0 w ew w1 hs.d1
 have hc258:ld (H.new mp (mpE (txE (ts++[u]) 0))) ⟨w,258,none⟩ [.slice ka ts.length kc]:=by
  obtain ⟨s1,e,s2,s3⟩:=hs.c258
  rw [w1] at s2; cases s2
  exact ⟨s1,ew,hw1,s3⟩
 refine ⟨rfl,ka,_,kc,hs.c258,trivial,rfl,mp,hs.c257,txE ts 0,txE (ts++[u]) 0,⟨hs.es⟩,⟨good74 _ _,.inl ⟨find_no key74 u ts 0 0 hu,heq⟩⟩,trivial,trivial,rfl,ka,_,kc,hc258,fun n12 h12 n13 h13=>?_⟩
 have h12:(H.new mp (mpE (txE (ts++[u]) 0))) n12=none:=h12
 have l12:=Le.new (e:=mkEnt [.string u] 0) h12
 have h13':(H.new mp (mpE (txE (ts++[u]) 0))) n13=none:=l12.none h13
 have hrow:Gr ((H.new mp (mpE (txE (ts++[u]) 0))).new n12 (mkEnt [.string u] 0)) 1 ka ts.length kc (keyC ts) ex:=hs.row.agree fun k e z1 z2=>l12 k e (kp0 k e z2 fun z=>hs.d3 (by rw [z1,z]))
 obtain ⟨a',H',ex',f1,f2,_,f4,f5⟩:=hrow.append (ti:=KT1) (new:=[.string u]) h13 rfl (by omega) (by decide) (by decide)
 have hnn:∀ n,(H.new mp (mpE (txE (ts++[u]) 0))) n=none→H n=none∧n≠mp:=fun n q=>by
  by_cases hm:n=mp
  ·subst hm; simp [KH.new] at q
  ·simp only [KH.new] at q; rw [if_neg hm] at q; exact ⟨q,hm⟩
 have kp1:∀ k e,H k=some e→k≠mp→blk ka≠some k→H' k=some e:=fun k e z1 z2 z3=>f4 k e (l12 k e (kp0 k e z1 z2)) z3
 have hmp':H' mp=some (mpE (txE (ts++[u]) 0)):=f4 mp _ (l12 mp _ (by simp [KH.new])) hs.d3
 have hw':H' w=some ew:=kp1 w ew w1 hs.d1 hs.d2
 have ha':∀ b,blk a'=some b→b≠w∧b≠mp∧(blk ka=some b∨H b=none):=fun b z=>by
  rcases f5 b z with u1 | u1
  ·exact ⟨fun v=>hs.d2 (by rw [u1,v]),fun v=>hs.d3 (by rw [u1,v]),.inl u1⟩
  ·subst u1
   have:=hnn b h13'
   exact ⟨fun v=>(by rw [v,w1] at this; cases this.1),this.2,.inr this.1⟩
 have hw2:ld H' ⟨w,257+1,none⟩ [.slice ka ts.length kc]:=by
  obtain ⟨s1,e,s2,s3⟩:=hs.c258
  rw [w1] at s2; cases s2
  exact ⟨s1,ew,hw',s3⟩
 refine ⟨1,_,knew_of (lit_kold (if_pos rfl) rfl),a',_,_,H',f1,⟨rfl,trivial⟩,rfl,stOk hw2 rfl,⟨ew,hw',w2⟩,trivial,?_⟩
 have hlen:(ts++[u]).length=ts.length+1:=by simp
 refine h2 hu (w :: mp :: (blk a').toList) _ ⟨mp,a',unkU,ex',⟨⟨⟨wr ew.cells (257+1) [.slice a' (ts.length+1) unkU],ew.len,ew.unk,none⟩,by simp only [KH.put,if_true,hw',Option.map_some],wrB_keep w2,?_⟩,put_ne hs.d1.symm hmp',?_,hs.d1,fun z=>(ha' w z).1 rfl,fun z=>(ha' mp z).2.1 rfl⟩,rfl⟩ ⟨fun k e z1 z2=>?_,fun b z=>?_⟩
 ·rw [hlen]
  have:=rdWr (e:=ew.cells) (N:=259) (o:=257+1) (xs:=[.slice a S.length c]++boolsR 256 tf++[.map (some mp)]) (ys:=[.slice ka ts.length kc]) (zs:=[]) (vs:=[.slice a' (ts.length+1) unkU]) (by simpa using w3) (by simp [boolsR_len]) rfl
  simpa using this
 ·have hn:keyC (ts++[u])=keyC ts++[.string u]:=by simp [keyC]
  rw [hlen,hn]
  exact f2.agree fun k e z1 z2=>put_ne (fun z=>(ha' k z1).1 z) z2
 ·have n1:k≠w:=fun q=>z2 (by simp [q])
  have n2:k≠mp:=fun q=>z2 (by simp [q])
  have n3:blk ka≠some k:=fun q=>z2 (by simp [q])
  exact put_ne n1 (kp1 k e z1 n2 n3)
 ·rcases List.mem_cons.1 z with q | z
  ·exact .inl (by simp [q])
  rcases List.mem_cons.1 z with q | z
  ·exact .inl (by simp [q])
  ·have z:blk a'=some b:=by simpa using z
   rcases (ha' b z).2.2 with v | v
   ·exact .inl (by simp [v])
   ·exact .inr v
end
end Va
end Go.Proofs.YtfhjkkbaghanhaaGreat
set_option linter.unusedVariables false
set_option linter.unusedSimpArgs false
namespace Go.Ew
open Go.Ev Go.Deep
def TurnP (S:List St) (i:Nat):Prop:=∃ s∈S,s.lo=(i:Nat)∨s.hi+1=(i:Nat)
def ByteS (S:List St):Prop:=∀ s∈S,(0≤s.lo∧s.lo≤255)∧0≤s.hi∧s.hi≤255
def setF (f:Nat→Bool) (i:Nat):Nat→Bool:=fun j=>if j=i then true else f j
theorem boolsR_set (f:Nat→Bool) {i:Nat} (hi:i<256):(boolsR 256 f).take i++[.bool true]++(boolsR 256 f).drop (i+1)=boolsR 256 (setF f i):=by
 have hl:=boolsR_len 256 f
 apply List.ext_getElem?
 intro j
 have key:∀ g:Nat→Bool,(boolsR 256 g)[j]? = if j<256 then some (.bool (g j)) else none:=fun g=>by
  by_cases h:j<256
  ·rw [if_pos h]; simp [boolsR,h]
  ·rw [if_neg h,List.getElem?_eq_none (by rw [boolsR_len]; omega)]
 rw [key,List.append_assoc]
 by_cases h1:j<i
 ·rw [List.getElem?_append_left (by simp [hl]; omega),List.getElem?_take_of_lt h1,key,if_pos (by omega),if_pos (by omega)]
  unfold setF
  rw [if_neg (by omega)]
 ·rw [List.getElem?_append_right (by simp [hl]; omega)]
  have hm:min i 256=i:=by omega
  simp only [List.length_take,hl,hm]
  by_cases h2:j=i
  ·subst h2
   rw [Nat.sub_self,if_pos hi]
   simp [setF]
  ·obtain ⟨d,hd⟩:∃ d,j-i=d+1:=⟨j-i-1,by omega⟩
   rw [hd]
   simp only [List.cons_append,List.nil_append,List.getElem?_cons_succ,List.getElem?_drop]
   have:i+1+d=j:=by omega
   rw [this,key]
   unfold setF
   rw [if_neg h2]
theorem boolsR_drop {n i:Nat} (f:Nat→Bool) (h:i<n):(boolsR n f).drop i = .bool (f i) :: (boolsR n f).drop (i+1):=by
 have hl:i<(boolsR n f).length:=by rw [boolsR_len]; exact h
 rw [List.drop_eq_getElem_cons hl]
 simp [boolsR]
theorem boolsR_rep (n:Nat) (b:Bool):boolsR n (fun _=>b)=List.replicate n (.bool b):=by
 unfold boolsR
 rw [List.map_const',List.length_range]
theorem rd_mk (cs:List Value) (u:Nat):rd (mkEnt cs u).cells 0 cs.length=some cs:=rd_some rfl fun j v hv=>by rw [Nat.zero_add]; simp only [mkEnt,tget_wr_nil]; exact hv
def TfB (K:KH) (n:Nat) (f:Nat→Bool) (H:KH):Prop:=∃ e:Ent,H=K.new n e∧wrB e=true∧rd e.cells 0 256=some (boolsR 256 f)
theorem TfB.at_ {K H:KH} {n:Nat} {f:Nat→Bool} (h:TfB K n f H) {i:Nat} (hi:i<256):ld H ⟨n,0+i*1,none⟩ [.bool (f i)]:=by
 obtain ⟨e,rfl,h1,h2⟩:=h
 have hl:ld (K.new n e) ⟨n,0,none⟩ (boolsR 256 f):=⟨rfl,e,if_pos rfl,by simpa [boolsR_len] using h2⟩
 have:=ldSub hl (i*1) 1 (by rw [boolsR_len]; omega)
 have h3:((boolsR 256 f).drop (i*1)).take 1=[.bool (f i)]:=by
  rw [Nat.mul_one,boolsR_drop f hi]
  rfl
 rw [h3] at this
 exact this
theorem TfB.may {K H:KH} {n:Nat} {f:Nat→Bool} (h:TfB K n f H):KH.may H n:=by
 obtain ⟨e,rfl,h1,h2⟩:=h
 exact ⟨⟨e,if_pos rfl,h1⟩⟩
theorem TfB.all {K H:KH} {n:Nat} {f:Nat→Bool} (h:TfB K n f H):ld H ⟨n,0,none⟩ (boolsR 256 f):=by
 obtain ⟨e,rfl,h1,h2⟩:=h
 exact ⟨rfl,e,if_pos rfl,by simpa [boolsR_len] using h2⟩
theorem put_newT {K:KH} {p o:Nat} {e:Ent} {vs:List Value}:(K.new p e).put ⟨p,o,none⟩ vs=K.new p ⟨wr e.cells o vs,e.len,e.unk,none⟩:=by
 funext k
 simp only [KH.put,KH.new]
 by_cases h:k=p<;>simp [h]
theorem TfB.put {K H:KH} {n:Nat} {f:Nat→Bool} (h:TfB K n f H) {i:Nat} (hi:i<256):TfB K n (setF f i) (H.put ⟨n,0+i*1,none⟩ [.bool true]):=by
 obtain ⟨e,rfl,h1,h2⟩:=h
 refine ⟨_,put_newT,wrB_keep h1,?_⟩
 rw [← boolsR_set f hi]
 have hl:=boolsR_len 256 f
 refine rdWr (ys:=[.bool (f i)]) ?_ (by simp [hl]; omega) rfl
 have h3:(boolsR 256 f).take i++[.bool (f i)]++(boolsR 256 f).drop (i+1)=boolsR 256 f:=by
  have h3:[.bool (f i)]++(boolsR 256 f).drop (i+1)=(boolsR 256 f).drop i:=by
   rw [boolsR_drop f hi]
   rfl
  rw [List.append_assoc,h3,List.take_append_drop]
 rw [h3]; exact h2
theorem TfB.same {K H:KH} {n:Nat} {f:Nat→Bool} (h:TfB K n f H):TfB K n f (H.put ⟨n,0,none⟩ (boolsR 256 f)):=by
 obtain ⟨e,rfl,h1,h2⟩:=h
 refine ⟨_,put_newT,wrB_keep h1,?_⟩
 have:=rdWr (e:=e.cells) (N:=256) (o:=0) (xs:=[]) (ys:=boolsR 256 f) (zs:=[]) (vs:=boolsR 256 f) (by simpa using h2) rfl rfl
 simpa using this
theorem TfB.le {K H:KH} {n:Nat} {f:Nat→Bool} (h:TfB K n f H) (hn:K n=none):Le K H:=by
 obtain ⟨e,rfl,h1,h2⟩:=h
 exact Le.new hn
end Go.Ew
namespace Go.Proofs.YtfhjkkbaghanhaaGreat
open Go.Ev Go.Ew
namespace Va
section
variable (ok : EnvOk (env Tryz.prog))
include ok
theorem c53 {X H:KH} {BB B:List Nat} {w p:Nat} {S:List St} {a:OA} {c:Nat} {tf:Nat→Bool} {ts:List ByteArray} {m:List Nat} {Q:PQ}
 (hst:SsN X S a) (hX:Le X H) (hk:KIn BB H w S a c tf ts) (hd:DrIn B H p m S.length) (hdis:∀ b∈B,b∉BB) (hXB:∀ b∈B,X b=none)
 (hS:S.length≤900000) (hfl:∀ x,(stAt S x).free.length≤1000000) (hl:ts.length≤900)
 (hnil:m=[]→Q (.int .i64 (-1)) H)
 (hq:m≠[]→∀ bs k ts' BB' H',Bits S.length bs (clM S m)→(∀ x∈clM S m,x<S.length)→KIn BB' H' w S a c tf ts'→(∀ k e,H k=some e→k∉BB→k∉B→H' k=some e)→(∀ b∈BB',b∈BB∨b∈B∨H b=none)→
   ((ts'=ts∧ts[k]? = some (strB bs))∨(ts'=ts++[strB bs]∧k=ts.length∧strB bs∉ts))→Q (.int .i64 ((k:Nat):Int)) H') :
 Does (env Tryz.prog) 53 [.pointer (some ⟨w,0,none⟩),.pointer (some ⟨p,0,none⟩)] H Q:=by
 have hd0:=hd
 obtain ⟨bs0,bp,am,cm,ex,hs,hB⟩:=hd
 refine fn53 ok ⟨rfl,am,_,cm,hs.c2,fun hz=>?_,fun hz=>?_⟩
 ·exact hnil (List.eq_nil_of_length_eq_zero (by have:=of_decide_eq_true hz; omega))
 have hne:m≠[]:=fun z=>by
  subst z
  have:=of_decide_eq_false hz
  simp at this
 let X1:KH:=fun k=>if k∈B then none else H k
 have hX1:Le X1 H:=fun k e q=>by
  by_cases hb:k∈B
  ·simp only [X1,if_pos hb] at q; cases q
  ·simp only [X1,if_neg hb] at q; exact q
 have hX1o:∀ b∈B,X1 b=none:=fun b hb=>by simp only [X1,if_pos hb]
 have hX1i:∀ k e,k∉B→H k=some e→X1 k=some e:=fun k e hb q=>by simp only [X1,if_neg hb]; exact q
 have hXX1:Le X X1:=fun k e q=>hX1i k e (fun hb=>by rw [hXB k hb] at q; cases q) (hX k e q)
 have hk1:KIn BB X1 w S a c tf ts:=hk.agree fun k e z1 z2=>hX1i k e (fun hb=>hdis k hb z1) z2
 refine c74 ok (hk1.bds (hst.mono hXX1)) ⟨hX1,hd0,hX1o⟩ hS hfl fun H2 B2 hW=>⟨rfl,trivial,rfl,?_⟩
 have hlt:∀ x∈clM S m,x<S.length:=by
  obtain ⟨_,_,_,_,_,hs2,_⟩:=hW.dr
  exact hs2.lt
 have hk2:KIn BB H2 w S a c tf ts:=hk1.up hW.le
 refine c76 ok hW.dr fun bs hbits=>⟨_,rfl,⟨rfl,rfl,⟨rfl,rfl⟩,trivial⟩,?_⟩
 have nw:∀ b,H2 b=none→b∈B∨H b=none:=fun b hb=>by
  by_cases hB1:b∈B
  ·exact .inl hB1
  ·rcases none_or H b with q | ⟨e,q⟩
   ·exact .inr q
   ·rw [hW.le b e (hX1i b e hB1 q)] at hb; cases hb
 refine c75 ok hk2 hl (fun k hk=>⟨_,rfl,trivial,?_⟩) fun hno BB' H' hk' hf=>⟨_,rfl,trivial,?_⟩
 ·exact hq hne bs k ts BB H2 hbits hlt hk2 (fun k e z1 _ z3=>hW.le k e (hX1i k e z3 z1)) (fun b hb=>.inl hb) (.inl ⟨rfl,hk⟩)
 ·exact hq hne bs ts.length (ts++[strB bs]) BB' H' hbits hlt hk' (fun k e z1 z2 z3=>hf.kp k e (hW.le k e (hX1i k e z3 z1)) z2) (fun b hb=>by
   rcases hf.nw b hb with z | z
   ·exact .inl z
   ·exact .inr (nw b z)) (.inr ⟨rfl,rfl,hno⟩)
theorem c49 {H:KH} {a:OA} {c:Nat} {S:List St} {Q:PQ} (hst:SsN H S a) (hb:ByteS S) (hS:S.length≤900000)
 (hq:∀ f H',Le H H'→(∀ i,i<256→(f i=true↔TurnP S i))→Q (.agg (List.toArray (boolsR 256 f))) H'):Does (env Tryz.prog) 49 [.slice a S.length c] H Q:=by
 refine fn49 ok fun n1 h1=>?_
 unfold vc49_L2
 have hT0:TfB H n1 (fun _=>false) (H.new n1 (mkEnt (List.replicate 256 (.bool false)) 0)):=by
  refine ⟨_,rfl,rfl,?_⟩
  have:=rd_mk (boolsR 256 fun _=>false) 0
  rw [boolsR_len,boolsR_rep] at this
  rw [boolsR_rep]
  exact this
 refine ⟨fun n3 n4 n5 a6 n7 n8 x9 x10 H11=>n4=n1∧n5=0∧a6=a∧n7=S.length∧x9=(S.length:Nat)∧∃ (k:Nat) (f:Nat→Bool),x10=k∧k≤S.length∧n3=S.length-k∧TfB H n1 f H11∧∀ i,i<256→(f i=true↔TurnP (S.take k) i),⟨S.length,rfl,rfl,rfl,rfl,rfl,rfl,0,_,rfl,by omega,rfl,hT0,fun i hi=>by simp [TurnP]⟩,?_⟩
 rintro n3 n4 n5 a6 n7 n8 x9 x10 H11 ⟨rfl,rfl,rfl,rfl,rfl,k,f,rfl,hk,rfl,hT,hf⟩
 refine ⟨fun hlt=>?_,fun hge=>?_⟩
 ·have hlt:k<S.length:=by have:=of_decide_eq_true hlt; omega
  have hsk:S[k]? = some S[k]:=by simp [hlt]
  obtain ⟨⟨lo1,lo2⟩,hi1,hi2⟩:=hb S[k] (List.getElem_mem hlt)
  obtain ⟨cs,g1,g2⟩:=hst
  obtain ⟨b1,o1,z1,r1⟩:=rowAddr ((hT.le h1).kold g1) (by omega)
  obtain ⟨af,cf,g3,g4⟩:=g2.get hsk
  have q1:=r1 (k*5) 5 (by omega)
  rw [g3] at q1
  have e0:Int.toNat ((k:Nat):Int)=k:=by omega
  have wk:IntKind.wrap .i64 (((k:Nat):Int)+1)=((k+1:Nat):Int):=by rw [wrap64 (by omega) (by omega)]; omega
  have hT1:=hT.put (i:=S[k].lo.toNat) (by omega)
  have hstep:∀ i,(TurnP (S.take (k+1)) i↔TurnP (S.take k) i∨(S[k].lo=(i:Nat)∨S[k].hi+1=(i:Nat))):=fun i=>by
   rw [List.take_succ_eq_append_getElem hlt]
   unfold TurnP
   constructor
   ·rintro ⟨s,hs,h⟩
    rcases List.mem_append.1 hs with z | z
    ·exact .inl ⟨s,z,h⟩
    ·have:s=S[k]:=by simpa using z
     subst this; exact .inr h
   ·rintro (⟨s,hs,h⟩ | h)
    ·exact ⟨s,List.mem_append_left _ hs,h⟩
    ·exact ⟨S[k],List.mem_append_right _ (List.mem_singleton.2 rfl),h⟩
  rw [e0,wk]
  refine ⟨⟨by omega,by omega⟩,b1,o1,z1,S[k].lo,S[k].hi,S[k].next,af,S[k].free.length,cf,S[k].e,q1,⟨lo1,by omega⟩,rfl,stOk (hT.at_ (i:=S[k].lo.toNat) (by omega)) rfl,hT.may,fun q2=>?_,fun q2=>?_⟩
  ·have q2:=of_decide_eq_true q2
   have w8:IntKind.wrap .u8 (S[k].hi+1)=S[k].hi+1:=by
    exact IntWalk.u8_in _ ⟨by omega,by omega⟩
   rw [w8]
   have hT2:=hT1.put (i:=(S[k].hi+1).toNat) (by omega)
   refine ⟨⟨by omega,by omega⟩,rfl,stOk (hT1.at_ (i:=(S[k].hi+1).toNat) (by omega)) rfl,hT1.may,S.length-(k+1),by omega,rfl,rfl,rfl,rfl,rfl,rfl,k+1,_,rfl,by omega,rfl,hT2,fun i hi=>?_⟩
   rw [hstep,← hf i hi]
   unfold setF
   by_cases z1:i=(S[k].hi+1).toNat
   ·rw [if_pos z1]; simp; right; right; omega
   ·rw [if_neg z1]
    by_cases z2:i=S[k].lo.toNat
    ·rw [if_pos z2]; simp; right; left; omega
    ·rw [if_neg z2]
     constructor
     ·exact .inl
     ·rintro (z | z | z)
      ·exact z
      ·omega
      ·omega
  ·have q2:=of_decide_eq_false q2
   refine ⟨S.length-(k+1),by omega,rfl,rfl,rfl,rfl,rfl,rfl,k+1,_,rfl,by omega,rfl,hT1,fun i hi=>?_⟩
   rw [hstep,← hf i hi]
   unfold setF
   by_cases z2:i=S[k].lo.toNat
   ·rw [if_pos z2]; simp; right; left; omega
   ·rw [if_neg z2]
    constructor
    ·exact .inl
    ·rintro (z | z | z)
     ·exact z
     ·omega
     ·omega
 ·have hge:k=S.length:=by have:=of_decide_eq_false hge; omega
  subst hge
  rw [List.take_length] at hf
  have hall:=hT.all
  have hall':ld H11 ⟨n4,0,none⟩ (boolsR 256 f++[]):=by rw [List.append_nil]; exact hall
  have hT2:=hT.same
  refine ⟨f,hall',stOk hall rfl,hT.may,f,by rw [List.append_nil]; exact hT2.all,hq f _ (hT2.le h1) hf⟩
end
end Va
end Go.Proofs.YtfhjkkbaghanhaaGreat
set_option linter.unusedVariables false
set_option linter.unusedSimpArgs false
namespace Go.Ew
open Go.Ev Go.Deep
def bitsTo (b:Int) (j i:Nat):List Nat:=((List.range j).filter fun k=>bitB b k).map fun k=>i*8+k
theorem bitsTo_succ (b:Int) (j i:Nat):bitsTo b (j+1) i=bitsTo b j i++if bitB b j=true then [i*8+j] else []:=by
 unfold bitsTo
 rw [List.range_succ,List.filter_append,List.map_append]
 by_cases h:bitB b j=true
 ·rw [if_pos h]; simp [h]
 ·rw [if_neg h]; simp [h]
theorem bitsTo_len (b:Int) (j i:Nat):(bitsTo b j i).length≤j:=by
 unfold bitsTo
 rw [List.length_map]
 have:=List.length_filter_le (fun k=>bitB b k) (List.range j)
 rw [List.length_range] at this
 exact this
theorem membB_app:∀ (l:List Int) (b:Int) (k:Nat),membB (l++[b]) k=membB l k++bitsTo b 8 (k+l.length)
 | [],b,k=>by simp [membB,bitsTo]
 | x :: l,b,k=>by
   simp only [List.cons_append,membB,membB_app l b (k+1),List.append_assoc,List.length_cons]
   rw [show k+1+l.length=k+(l.length+1) by omega]
theorem membB_take {bs:List Int} {i:Nat} (h:i<bs.length):membB (bs.take (i+1)) 0=membB (bs.take i) 0++bitsTo bs[i] 8 i:=by
 rw [List.take_succ_eq_append_getElem h,membB_app,List.length_take]
 rw [show 0+min i bs.length=i by omega]
theorem membB_len:∀ (l:List Int) (k:Nat),(membB l k).length≤8*l.length
 | [],k=>by simp [membB]
 | x :: l,k=>by
   have h1:=membB_len l (k+1)
   have h2:=bitsTo_len x 8 k
   unfold bitsTo at h2
   simp only [membB,List.length_append,List.length_cons]
   omega
end Go.Ew
namespace Go.Proofs.YtfhjkkbaghanhaaGreat
open Go.Ev Go.Ew
namespace Va
section
variable (ok : EnvOk (env Tryz.prog))
include ok
theorem c54 {H:KH} {bs:List Int} {Q:PQ} (hr:∀ b∈bs,0≤b∧b≤255) (hN:bs.length≤120000)
 (hq:∀ a c H',Le H H'→Own H H' 1 a (membB bs 0).length c (natC (membB bs 0))→Q (.slice a (membB bs 0).length c) H'):Does (env Tryz.prog) 54 [.agg #[.string (strB bs)]] H Q:=by
 refine fn54 ok ?_
 unfold vc54 vc54_L2
 have natApp:∀ (l:List Nat) (x:Nat),natC (l++[x])=natC l++[.int .i64 ((x:Nat):Int)]:=fun l x=>by simp [natC]
 refine ⟨fun n3 s4 a5 n6 n7 x8 x9 H10=>s4=strB bs∧x8=(bs.length:Nat)∧∃ i:Nat,x9=i∧i≤bs.length∧n3=bs.length-i∧Le H H10∧n6=(membB (bs.take i) 0).length∧Own H H10 1 a5 n6 n7 (natC (membB (bs.take i) 0)),⟨bs.length,rfl,by rw [strB_size],0,rfl,by omega,rfl,Le.refl _,rfl,.nil⟩,?_⟩
 rintro n3 s4 a5 n6 n7 x8 x9 H10 ⟨rfl,rfl,i,rfl,hi,rfl,hle,rfl,hown⟩
 refine ⟨fun hlt=>?_,fun hge=>?_⟩
 ·have hlt:i<bs.length:=by have:=of_decide_eq_true hlt; omega
  have hbi:bs[i]? = some bs[i]:=by simp [hlt]
  have hby:=strB_at hbi (hr _ (List.getElem_mem hlt))
  have hml:=membB_len (bs.take i) 0
  rw [List.length_take] at hml
  have e0:Int.toNat ((i:Nat):Int)=i:=by omega
  unfold vc54_L1
  refine ⟨fun m3 s4 a5 n6 n7 x8 x9 x10 x11 H12=>s4=strB bs∧x8=(i:Nat)∧x9=(bs.length:Nat)∧x10=(i:Nat)∧∃ j:Nat,x11=j∧j≤8∧m3=8-j∧Le H H12∧n6=(membB (bs.take i) 0++bitsTo bs[i] j i).length∧Own H H12 1 a5 n6 n7 (natC (membB (bs.take i) 0++bitsTo bs[i] j i)),⟨8,rfl,rfl,rfl,rfl,0,rfl,by omega,rfl,hle,by simp [bitsTo],by simpa [bitsTo] using hown⟩,?_⟩
  rintro m3 s4 a5' n6' n7' x8 x9 x10 x11 H12 ⟨rfl,rfl,rfl,rfl,j,rfl,hj,rfl,hle2,rfl,hown2⟩
  refine ⟨fun hlt2=>?_,fun hge2=>?_⟩
  ·have hlt2:j<8:=by have:=of_decide_eq_true hlt2; omega
   have e1:Int.toNat ((j:Nat):Int)=j:=by omega
   have hbl:=bitsTo_len bs[i] j i
   have w1:IntKind.wrap .i64 (((i:Nat):Int)*8)=((i*8:Nat):Int):=by rw [wrap64 (by omega) (by omega)]; omega
   have w2:IntKind.wrap .i64 (((i*8:Nat):Int)+((j:Nat):Int))=((i*8+j:Nat):Int):=by rw [wrap64 (by omega) (by omega)]; omega
   have wj:IntKind.wrap .i64 (((j:Nat):Int)+1)=((j+1:Nat):Int):=by rw [wrap64 (by omega) (by omega)]; omega
   have hbs:=bitsTo_succ bs[i] j i
   rw [e0,e1,hby,w1,w2,wj]
   refine ⟨⟨by omega,by rw [strB_size]; omega⟩,by omega,fun h1 n1 h2 n2 h3=>?_,fun h1=>?_⟩
   ·have h1:bitB bs[i] j=true:=h1
    rw [if_pos h1] at hbs
    have l2:=Le.new (e:=mkEnt [.int .i64 ((i*8+j:Nat):Int)] 0) h2
    obtain ⟨a',c',H',f1,f2,f3,f4,f5⟩:=(hown2.agree (fun k e _ q=>l2 k e q)).append (ti:=IT1) (m:=1) (new:=[.int .i64 ((i*8+j:Nat):Int)]) (hle2.trans l2) h3 rfl (by simp only [List.length_append]; omega) (by decide) (by decide)
    refine ⟨1,_,knew_of (lit_kold (if_pos rfl) rfl),a',_,c',H',f1,8-(j+1),by omega,rfl,rfl,rfl,rfl,j+1,rfl,by omega,rfl,f3,by rw [hbs]; simp only [List.length_append,List.length_cons,List.length_nil]; omega,?_⟩
    rw [hbs,← List.append_assoc,natApp]
    exact f2
   ·have h1:¬ bitB bs[i] j=true:=by
     have h1:bitB bs[i] j=false:=h1
     rw [h1]; simp
    rw [if_neg h1,List.append_nil] at hbs
    exact ⟨8-(j+1),by omega,rfl,rfl,rfl,rfl,j+1,rfl,by omega,rfl,hle2,by rw [hbs],by rw [hbs]; exact hown2⟩
  ·have hge2:j=8:=by have:=of_decide_eq_false hge2; omega
   subst hge2
   refine ⟨bs.length-(i+1),by omega,rfl,rfl,i+1,by rw [wrap64 (by omega) (by omega)]; omega,by omega,rfl,hle2,by rw [membB_take hlt],by rw [membB_take hlt]; exact hown2⟩
 ·have hge:i=bs.length:=by have:=of_decide_eq_false hge; omega
  subst hge
  rw [List.take_length] at hown ⊢
  exact hq _ _ _ hle hown
end
end Va
end Go.Proofs.YtfhjkkbaghanhaaGreat
