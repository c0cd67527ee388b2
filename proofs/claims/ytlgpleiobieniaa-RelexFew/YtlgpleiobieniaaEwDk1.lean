import Derived.Test.YtlgpleiobieniaaEwNt1
import Derived.Test.YtlgpleiobieniaaEwS1
import Derived.Test.YtlgpleiobieniaaEwKeep0
import Derived.Test.YtlgpleiobieniaaEwS4
set_option linter.unusedVariables false
set_option linter.unusedSimpArgs false
namespace Go.Ew
open Go.Ev Go.Deep
theorem bytes_loop (bs:ByteArray):∀ (n i:Nat) (r:List UInt8),n=bs.size-i->ByteArray.toList.loop bs i r=r.reverse++bs.data.toList.drop i
 | 0,i,r,h=>by
   rw [ByteArray.toList.loop,if_neg (by omega),List.drop_eq_nil_of_le (by show bs.size<=i; omega),List.append_nil]
 | n+1,i,r,h=>by
   have hi:i<bs.size:=by omega
   have hl:i<bs.data.toList.length:=hi
   rw [ByteArray.toList.loop,if_pos hi,bytes_loop bs n (i+1) _ (by omega),List.drop_eq_getElem_cons hl]
   have:bs.get! i=bs.data.toList[i]:=by
    have hd:i<bs.data.size:=hi
    show bs.data[i]! = _
    rw [getElem!_pos bs.data i hd]
    simp
   rw [this]
   simp
theorem bytes_list (bs:ByteArray):bs.toList=bs.data.toList:=by
 unfold ByteArray.toList
 rw [bytes_loop bs _ 0 [] rfl]
 simp
theorem strEq_iff {x y:ByteArray}:strEq x y=true↔x=y:=by
 unfold strEq
 rw [bytes_list,bytes_list,beq_iff_eq]
 constructor
 .intro h
  obtain ⟨⟨a⟩⟩:=x
  obtain ⟨⟨b⟩⟩:=y
  have h:a=b:=h
  rw [h]
 .intro h; rw [h]
theorem strB_inj {a b:List Int} (ha:∀ x∈a,0<=x/\x<=255) (hb:∀ x∈b,0<=x/\x<=255) (h:strB a=strB b):a=b:=by
 have hl:a.length=b.length:=by rw [<- strB_size a,h,strB_size]
 apply List.ext_getElem?
 intro i
 by_cases hi:i<a.length
 .have e1:a[i]? = some a[i]:=by simp [hi]
  have e2:b[i]? = some (b[i]'(by omega)):=by simp [hl ▸ hi]
  have h1:=strB_at e1 (ha _ (List.getElem_mem hi))
  have h2:=strB_at e2 (hb _ (List.getElem_mem (by omega)))
  rw [h] at h1
  rw [e1,e2,<- h1,<- h2]
 .rw [List.getElem?_eq_none (by omega),List.getElem?_eq_none (by omega)]
def txE:List ByteArray->Nat->List (Value × Value)
 | [],_=>[]
 | s :: l,i=>(.agg #[.string s],.int .i64 ((i:Nat):Int)) :: txE l (i+1)
theorem txE_app:∀ (l:List ByteArray) (s:ByteArray) (i:Nat),txE (l++[s]) i=txE l i++[(.agg #[.string s],.int .i64 ((i+l.length:Nat):Int))]
 | [],s,i=>rfl
 | t :: l,s,i=>by
   simp only [List.cons_append,txE,txE_app l s (i+1),List.length_cons]
   rw [show i+1+l.length=i+(l.length+1) by omega]
theorem eq_tx {P:Program} {t:TypeId} (hk:∀ s:ByteArray,strK P t [.string s]=true) (s u:ByteArray):srun P (Op.equal t (.agg #[.string s]) (.agg #[.string u]))=some (strEq s u):=by
 have h:eqCs [.string s] [.string u]=some (strEq s u&&true):=rfl
 rw [Bool.and_true] at h
 exact (strK_run (op:=.eql) (x:=.tmp 0) (y:=.tmp 0) (xs:=#[.string s]) (ys:=#[.string u]) (hk s) h).1
theorem find_tx {P:Program} {t:TypeId} (hk:∀ s:ByteArray,strK P t [.string s]=true) (u:ByteArray):∀ (l:List ByteArray) (i j k:Nat),l[k]? = some u->(∀ j,j<k->l[j]?≠some u)->kFind P t (.agg #[.string u]) (txE l i) j=some (some (j+k,.int .i64 ((i+k:Nat):Int)))
 | [],i,j,k,h,_=>by simp at h
 | s :: l,i,j,0,h,_=>by
   have h:s=u:=by simpa using h
   subst h
   have he:strEq s s=true:=strEq_iff.2 rfl
   simp only [txE,kFind,eq_tx hk,he]
   rfl
 | s :: l,i,j,k+1,h,hn=>by
   have hs:strEq u s=false:=by
    cases hq:strEq u s with
    | false=>rfl
    | true=>exact absurd (by rw [strEq_iff.1 hq]; rfl) (hn 0 (by omega))
   have:=find_tx hk u l (i+1) (j+1) k (by simpa using h) fun q hq=>by
    have:=hn (q+1) (by omega)
    simpa using this
   simp only [txE,kFind,eq_tx hk,hs,this]
   rw [show j+1+k=j+(k+1) by omega,show i+1+k=i+(k+1) by omega]
theorem find_no {P:Program} {t:TypeId} (hk:∀ s:ByteArray,strK P t [.string s]=true) (u:ByteArray):∀ (l:List ByteArray) (i j:Nat),u∉l->kFind P t (.agg #[.string u]) (txE l i) j=some none
 | [],i,j,_=>rfl
 | s :: l,i,j,h=>by
   have hs:strEq u s=false:=by
    cases hq:strEq u s with
    | false=>rfl
    | true=>exact absurd (by rw [strEq_iff.1 hq]; simp) h
   have:=find_no hk u l (i+1) (j+1) fun z=>h (by simp [z])
   simp only [txE,kFind,eq_tx hk,hs,this]
end Go.Ew
namespace Go.Proofs.Ytlgpleiobieniaa
open Go.Ev Go.Ew
namespace Va
theorem key74 (s:ByteArray):strK Try.prog 89 [.string s]=true:=by kernel_rfl
theorem good74 (b:Bool) (s:ByteArray):keyGood Try.prog b 89 (.agg #[.string s])=true:=by cases b<;>kernel_rfl
theorem zero3:srun Try.prog (zeroValue 3)=some (.int .i64 0):=by kernel_rfl
end Va
end Go.Proofs.Ytlgpleiobieniaa
namespace Go.Ew
open Go.Ev Go.Deep
theorem mid {A B:List Value} {x:Value} {n:Nat} (h:A.length=n):((A++[x]++B).drop n).take 1=[x]:=by
 subst h
 rw [List.append_assoc,List.drop_left]
 rfl
theorem tx_first {α:Type} [DecidableEq α] {u:α}:∀ {l:List α},u∈l->∃ k:Nat,l[k]? = some u/\∀ j:Nat,j<k->l[j]?≠some u
 | [],h=>by cases h
 | s :: l,h=>by
   by_cases hs:s=u
   .exact ⟨0,by simp [hs],fun j hj=>by omega⟩
   .have h:u∈l:=by
     rcases List.mem_cons.1 h with z | z
     .exact absurd z.symm hs
     .exact z
    obtain ⟨k,h1,h2⟩:=tx_first h
    refine ⟨k+1,by simpa using h1,fun j hj=>?_⟩
    cases j with
    | zero=>simpa using hs
    | succ j=>simpa using h2 j (by omega)
def keyC (ts:List ByteArray):List Value:=ts.map .string
theorem keyC_at {ts:List ByteArray} {k:Nat} {t:ByteArray} (h:ts[k]? = some t):((keyC ts).drop (k*1)).take 1=[.string t]:=dropTake rfl fun j hj=>by
 match j,hj with
 | 0,_=>simp [keyC,h]
abbrev KT1:TI:=⟨1,16,true,3,0,0,[(0,1)],[.string (ByteArray.mk #[])]⟩
structure KyB (H:KH) (w mp:Nat) (S:List St) (a:OA) (c:Nat) (tf:Nat->Bool) (ka:OA) (kc:Nat) (ex:List Value) (ts:List ByteArray):Prop where
 pt:∃ e,H w=some e/\wrB e=true/\rd e.cells 0 259=some ([.slice a S.length c]++boolsR 256 tf++[.map (some mp)]++[.slice ka ts.length kc])
 es:H mp=some (mpE (txE ts 0))
 row:Gr H 1 ka ts.length kc (keyC ts) ex
 d1:w≠mp
 d2:blk ka≠some w
 d3:blk ka≠some mp
section
variable {H : KH} {w mp : Nat} {S : List St} {a : OA} {c : Nat} {tf : Nat -> Bool} {ka : OA} {kc : Nat} {ex : List Value} {ts : List ByteArray}
theorem KyB.all (h:KyB H w mp S a c tf ka kc ex ts):ld H ⟨w,0,none⟩ ([.slice a S.length c]++boolsR 256 tf++[.map (some mp)]++[.slice ka ts.length kc]):=by
 obtain ⟨e,h1,h2,h3⟩:=h.pt
 exact ⟨rfl,e,h1,by simpa [boolsR_len] using h3⟩
theorem KyB.c0 (h:KyB H w mp S a c tf ka kc ex ts):ld H ⟨w,0+0,none⟩ [.slice a S.length c]:=by
 have:=ldSub h.all 0 1 (by simp [boolsR_len])
 simpa using this
theorem KyB.c257 (h:KyB H w mp S a c tf ka kc ex ts):ld H ⟨w,257,none⟩ [.map (some mp)]:=by
 have:=ldSub h.all 257 1 (by simp [boolsR_len])
 rw [mid (n:=257) (x:=Value.map (some mp)) (A:=[Value.slice a S.length c]++boolsR 256 tf) (B:=[Value.slice ka ts.length kc]) (by simp [boolsR_len])] at this
 simpa using this
theorem KyB.c258 (h:KyB H w mp S a c tf ka kc ex ts):ld H ⟨w,258,none⟩ [.slice ka ts.length kc]:=by
 have:=ldSub h.all 258 1 (by simp [boolsR_len])
 have e:([Value.slice a S.length c]++boolsR 256 tf++[.map (some mp)]++[.slice ka ts.length kc])=([Value.slice a S.length c]++boolsR 256 tf++[.map (some mp)])++[.slice ka ts.length kc]++[]:=by simp
 rw [e,mid (by simp [boolsR_len])] at this
 simpa using this
theorem KyB.turn (h:KyB H w mp S a c tf ka kc ex ts) {i:Nat} (hi:i<256):ld H ⟨w,0+1+i*1,none⟩ [.bool (tf i)]:=by
 have:=ldSub h.all (1+i) 1 (by simp [boolsR_len]; omega)
 have e:([Value.slice a S.length c]++boolsR 256 tf++[.map (some mp)]++[.slice ka ts.length kc])=([Value.slice a S.length c]++(boolsR 256 tf).take i)++[.bool (tf i)]++((boolsR 256 tf).drop (i+1)++[.map (some mp)]++[.slice ka ts.length kc]):=by
  have h2:boolsR 256 tf=(boolsR 256 tf).take i++[.bool (tf i)]++(boolsR 256 tf).drop (i+1):=by
   rw [List.append_assoc]
   have hl:i<(boolsR 256 tf).length:=by rw [boolsR_len]; exact hi
   have h3:[.bool (tf i)]++(boolsR 256 tf).drop (i+1)=(boolsR 256 tf).drop i:=by
    rw [List.drop_eq_getElem_cons hl]
    simp [boolsR]
   rw [h3,List.take_append_drop]
  conv=>lhs; rw [h2]
  simp only [List.append_assoc]
 rw [e,mid (by simp [boolsR_len]; omega)] at this
 have e2:0+(1+i)=0+1+i*1:=by omega
 rw [e2] at this
 exact this
end
def KIn (BB:List Nat) (H:KH) (w:Nat) (S:List St) (a:OA) (c:Nat) (tf:Nat->Bool) (ts:List ByteArray):Prop:=∃ mp ka kc ex,KyB H w mp S a c tf ka kc ex ts/\BB=w :: mp :: (blk ka).toList
section
variable {BB : List Nat} {H H' : KH} {w : Nat} {S : List St} {a : OA} {c : Nat} {tf : Nat -> Bool} {ts : List ByteArray}
theorem KIn.known (h:KIn BB H w S a c tf ts):∀ b∈BB,∃ e,H b=some e:=by
 obtain ⟨mp,ka,kc,ex,hs,rfl⟩:=h
 intro b hb
 rcases List.mem_cons.1 hb with z | hb
 .obtain ⟨e,h1,_⟩:=hs.pt; exact ⟨e,by rw [z]; exact h1⟩
 rcases List.mem_cons.1 hb with z | hb
 .exact ⟨_,by rw [z]; exact hs.es⟩
 .have:blk ka=some b:=by simpa using hb
  exact hs.row.at' this
theorem KIn.agree (h:KIn BB H w S a c tf ts) (hk:∀ k e,k∈BB->H k=some e->H' k=some e):KIn BB H' w S a c tf ts:=by
 obtain ⟨mp,ka,kc,ex,hs,rfl⟩:=h
 obtain ⟨e1,a1,a2,a3⟩:=hs.pt
 exact ⟨mp,ka,kc,ex,⟨⟨e1,hk w e1 (by simp) a1,a2,a3⟩,hk mp _ (by simp) hs.es,hs.row.agree fun k e z1 z2=>hk k e (by simp [z1]) z2,hs.d1,hs.d2,hs.d3⟩,rfl⟩
theorem KIn.up (h:KIn BB H w S a c tf ts) (hl:Le H H'):KIn BB H' w S a c tf ts:=h.agree fun k e _ q=>hl k e q
theorem KIn.bds (h:KIn BB H w S a c tf ts) (hst:SsN H S a):BdS H w S a c:=⟨hst,fun H' hl=>by
 obtain ⟨mp,ka,kc,ex,hs,rfl⟩:=h
 exact hl.ld hs.c0⟩
end
theorem SsN.mono {X Y:KH} {S:List St} {a:OA} (hl:Le X Y) (h:SsN X S a):SsN Y S a:=by
 obtain ⟨cs,h1,h2⟩:=h
 exact ⟨cs,hl.kold h1,h2.mono hl⟩
end Go.Ew
namespace Go.Proofs.Ytlgpleiobieniaa
open Go.Ev Go.Ew
namespace Va
section
variable (ok : EnvOk (env Try.prog))
include ok
theorem c63 {BB:List Nat} {H:KH} {w:Nat} {S:List St} {a:OA} {c:Nat} {tf:Nat->Bool} {ts:List ByteArray} {u:ByteArray} {Q:PQ} (h:KIn BB H w S a c tf ts) (hl:ts.length<=900)
 (h1:∀ k,ts[k]? = some u->Q (.int .i64 ((k:Nat):Int)) H)
 (h2:u∉ts->∀ BB' H',KIn BB' H' w S a c tf (ts++[u])->Fr1 BB BB' H H'->Q (.int .i64 ((ts.length:Nat):Int)) H'):Does (env Try.prog) 63 [.pointer (some ⟨w,257,none⟩),.agg #[.string u]] H Q:=by
 obtain ⟨mp,ka,kc,ex,hs,rfl⟩:=h
 refine fn63 ok ⟨trivial,rfl,mp,hs.c257,txE ts 0,⟨hs.es⟩,?_⟩
 by_cases hu:u∈ts
 .obtain ⟨k,hk,hmin⟩:=tx_first hu
  have hf:=find_tx key74 u ts 0 0 k hk hmin
  rw [Nat.zero_add] at hf
  exact .inr ⟨k,⟨good74 _ _,_,hf⟩,(fun z=>by cases z),fun _=>h1 k hk⟩
 refine .inl ⟨⟨good74 _ _,find_no key74 u ts 0 0 hu,zero3⟩,fun _=>?_,(fun z=>by cases z)⟩
 obtain ⟨ew,w1,w2,w3⟩:=hs.pt
 have heq:txE (ts++[u]) 0=txE ts 0++[(.agg #[.string u],.int .i64 ((ts.length:Nat):Int))]:=by rw [txE_app,Nat.zero_add]
 have kp0:∀ k e,H k=some e->k≠mp->(H.new mp (mpE (txE (ts++[u]) 0))) k=some e:=fun k e q hk=>by simp only [KH.new]; rw [if_neg hk]; exact q
 have hw1:=kp0 w ew w1 hs.d1
 have hc258:ld (H.new mp (mpE (txE (ts++[u]) 0))) ⟨w,258,none⟩ [.slice ka ts.length kc]:=by
  obtain ⟨s1,e,s2,s3⟩:=hs.c258
  rw [w1] at s2; cases s2
  exact ⟨s1,ew,hw1,s3⟩
 refine ⟨rfl,ka,_,kc,hs.c258,trivial,rfl,mp,hs.c257,txE ts 0,txE (ts++[u]) 0,⟨hs.es⟩,⟨good74 _ _,.inl ⟨find_no key74 u ts 0 0 hu,heq⟩⟩,trivial,trivial,rfl,ka,_,kc,hc258,fun n12 h12 n13 h13=>?_⟩
 have h12:(H.new mp (mpE (txE (ts++[u]) 0))) n12=none:=h12
 have l12:=Le.new (e:=mkEnt [.string u] 0) h12
 have h13':(H.new mp (mpE (txE (ts++[u]) 0))) n13=none:=l12.none h13
 have hrow:Gr ((H.new mp (mpE (txE (ts++[u]) 0))).new n12 (mkEnt [.string u] 0)) 1 ka ts.length kc (keyC ts) ex:=hs.row.agree fun k e z1 z2=>l12 k e (kp0 k e z2 fun z=>hs.d3 (by rw [z1,z]))
 obtain ⟨a',H',ex',f1,f2,_,f4,f5⟩:=hrow.append (ti:=KT1) (new:=[.string u]) h13 rfl (by omega) (by decide) (by decide)
 have hnn:∀ n,(H.new mp (mpE (txE (ts++[u]) 0))) n=none->H n=none/\n≠mp:=fun n q=>by
  by_cases hm:n=mp
  .subst hm; simp [KH.new] at q
  .simp only [KH.new] at q; rw [if_neg hm] at q; exact ⟨q,hm⟩
 have kp1:∀ k e,H k=some e->k≠mp->blk ka≠some k->H' k=some e:=fun k e z1 z2 z3=>f4 k e (l12 k e (kp0 k e z1 z2)) z3
 have hmp':H' mp=some (mpE (txE (ts++[u]) 0)):=f4 mp _ (l12 mp _ (by simp [KH.new])) hs.d3
 have hw':H' w=some ew:=kp1 w ew w1 hs.d1 hs.d2
 have ha':∀ b,blk a'=some b->b≠w/\b≠mp/\(blk ka=some b\/H b=none):=fun b z=>by
  rcases f5 b z with u1 | u1
  .exact ⟨fun v=>hs.d2 (by rw [u1,v]),fun v=>hs.d3 (by rw [u1,v]),.inl u1⟩
  .subst u1
   have:=hnn b h13'
   exact ⟨fun v=>(by rw [v,w1] at this; cases this.1),this.2,.inr this.1⟩
 have hw2:ld H' ⟨w,257+1,none⟩ [.slice ka ts.length kc]:=by
  obtain ⟨s1,e,s2,s3⟩:=hs.c258
  rw [w1] at s2; cases s2
  exact ⟨s1,ew,hw',s3⟩
 refine ⟨1,_,knew_of (lit_kold (if_pos rfl) rfl),a',_,_,H',f1,⟨rfl,trivial⟩,rfl,stOk hw2 rfl,⟨ew,hw',w2⟩,trivial,?_⟩
 have hlen:(ts++[u]).length=ts.length+1:=by simp
 refine h2 hu (w :: mp :: (blk a').toList) _ ⟨mp,a',unkU,ex',⟨⟨⟨wr ew.cells (257+1) [.slice a' (ts.length+1) unkU],ew.len,ew.unk,none⟩,by simp only [KH.put,if_true,hw',Option.map_some],wrB_keep w2,?_⟩,put_ne hs.d1.symm hmp',?_,hs.d1,fun z=>(ha' w z).1 rfl,fun z=>(ha' mp z).2.1 rfl⟩,rfl⟩ ⟨fun k e z1 z2=>?_,fun b z=>?_⟩
 .rw [hlen]
  have:=rdWr (e:=ew.cells) (N:=259) (o:=257+1) (xs:=[.slice a S.length c]++boolsR 256 tf++[.map (some mp)]) (ys:=[.slice ka ts.length kc]) (zs:=[]) (vs:=[.slice a' (ts.length+1) unkU]) (by simpa using w3) (by simp [boolsR_len]) rfl
  simpa using this
 .have hn:keyC (ts++[u])=keyC ts++[.string u]:=by simp [keyC]
  rw [hlen,hn]
  exact f2.agree fun k e z1 z2=>put_ne (fun z=>(ha' k z1).1 z) z2
 .have n1:k≠w:=fun q=>z2 (by simp [q])
  have n2:k≠mp:=fun q=>z2 (by simp [q])
  have n3:blk ka≠some k:=fun q=>z2 (by simp [q])
  exact put_ne n1 (kp1 k e z1 n2 n3)
 .rcases List.mem_cons.1 z with q | z
  .exact .inl (by simp [q])
  rcases List.mem_cons.1 z with q | z
  .exact .inl (by simp [q])
  .have z:blk a'=some b:=by simpa using z
   rcases (ha' b z).2.2 with v | v
   .exact .inl (by simp [v])
   .exact .inr v
end
end Va
end Go.Proofs.Ytlgpleiobieniaa
namespace Go.Ew
open Go.Ev Go.Deep
def TurnP (S:List St) (i:Nat):Prop:=∃ s∈S,s.lo=(i:Nat)\/s.hi+1=(i:Nat)
def ByteS (S:List St):Prop:=∀ s∈S,(0<=s.lo/\s.lo<=255)/\0<=s.hi/\s.hi<=255
def setF (f:Nat->Bool) (i:Nat):Nat->Bool:=fun j=>if j=i then true else f j
theorem boolsR_set (f:Nat->Bool) {i:Nat} (hi:i<256):(boolsR 256 f).take i++[.bool true]++(boolsR 256 f).drop (i+1)=boolsR 256 (setF f i):=by
 have hl:=boolsR_len 256 f
 apply List.ext_getElem?
 intro j
 have key:∀ g:Nat->Bool,(boolsR 256 g)[j]? = if j<256 then some (.bool (g j)) else none:=fun g=>by
  by_cases h:j<256
  .rw [if_pos h]; simp [boolsR,h]
  .rw [if_neg h,List.getElem?_eq_none (by rw [boolsR_len]; omega)]
 rw [key,List.append_assoc]
 by_cases h1:j<i
 .rw [List.getElem?_append_left (by simp [hl]; omega),List.getElem?_take_of_lt h1,key,if_pos (by omega),if_pos (by omega)]
  unfold setF
  rw [if_neg (by omega)]
 .rw [List.getElem?_append_right (by simp [hl]; omega)]
  have hm:min i 256=i:=by omega
  simp only [List.length_take,hl,hm]
  by_cases h2:j=i
  .subst h2
   rw [Nat.sub_self,if_pos hi]
   simp [setF]
  .obtain ⟨d,hd⟩:∃ d,j-i=d+1:=⟨j-i-1,by omega⟩
   rw [hd]
   simp only [List.cons_append,List.nil_append,List.getElem?_cons_succ,List.getElem?_drop]
   have:i+1+d=j:=by omega
   rw [this,key]
   unfold setF
   rw [if_neg h2]
theorem boolsR_drop {n i:Nat} (f:Nat->Bool) (h:i<n):(boolsR n f).drop i = .bool (f i) :: (boolsR n f).drop (i+1):=by
 have hl:i<(boolsR n f).length:=by rw [boolsR_len]; exact h
 rw [List.drop_eq_getElem_cons hl]
 simp [boolsR]
theorem boolsR_rep (n:Nat) (b:Bool):boolsR n (fun _=>b)=List.replicate n (.bool b):=by
 unfold boolsR
 rw [List.map_const',List.length_range]
theorem rd_mk (cs:List Value) (u:Nat):rd (mkEnt cs u).cells 0 cs.length=some cs:=rd_some rfl fun j v hv=>by rw [Nat.zero_add]; simp only [mkEnt,tget_wr_nil]; exact hv
def TfB (K:KH) (n:Nat) (f:Nat->Bool) (H:KH):Prop:=∃ e:Ent,H=K.new n e/\wrB e=true/\rd e.cells 0 256=some (boolsR 256 f)
theorem TfB.at_ {K H:KH} {n:Nat} {f:Nat->Bool} (h:TfB K n f H) {i:Nat} (hi:i<256):ld H ⟨n,0+i*1,none⟩ [.bool (f i)]:=by
 obtain ⟨e,rfl,h1,h2⟩:=h
 have hl:ld (K.new n e) ⟨n,0,none⟩ (boolsR 256 f):=⟨rfl,e,if_pos rfl,by simpa [boolsR_len] using h2⟩
 have:=ldSub hl (i*1) 1 (by rw [boolsR_len]; omega)
 have h3:((boolsR 256 f).drop (i*1)).take 1=[.bool (f i)]:=by
  rw [Nat.mul_one,boolsR_drop f hi]
  rfl
 rw [h3] at this
 exact this
theorem TfB.may {K H:KH} {n:Nat} {f:Nat->Bool} (h:TfB K n f H):KH.may H n:=by
 obtain ⟨e,rfl,h1,h2⟩:=h
 exact ⟨⟨e,if_pos rfl,h1⟩⟩
theorem TfB.all {K H:KH} {n:Nat} {f:Nat->Bool} (h:TfB K n f H):ld H ⟨n,0,none⟩ (boolsR 256 f):=by
 obtain ⟨e,rfl,h1,h2⟩:=h
 exact ⟨rfl,e,if_pos rfl,by simpa [boolsR_len] using h2⟩
theorem put_newT {K:KH} {p o:Nat} {e:Ent} {vs:List Value}:(K.new p e).put ⟨p,o,none⟩ vs=K.new p ⟨wr e.cells o vs,e.len,e.unk,none⟩:=by
 funext k
 simp only [KH.put,KH.new]
 by_cases h:k=p<;>simp [h]
theorem TfB.put {K H:KH} {n:Nat} {f:Nat->Bool} (h:TfB K n f H) {i:Nat} (hi:i<256):TfB K n (setF f i) (H.put ⟨n,0+i*1,none⟩ [.bool true]):=by
 obtain ⟨e,rfl,h1,h2⟩:=h
 refine ⟨_,put_newT,wrB_keep h1,?_⟩
 rw [<- boolsR_set f hi]
 have hl:=boolsR_len 256 f
 refine rdWr (ys:=[.bool (f i)]) ?_ (by simp [hl]; omega) rfl
 have h3:(boolsR 256 f).take i++[.bool (f i)]++(boolsR 256 f).drop (i+1)=boolsR 256 f:=by
  have h3:[.bool (f i)]++(boolsR 256 f).drop (i+1)=(boolsR 256 f).drop i:=by
   rw [boolsR_drop f hi]
   rfl
  rw [List.append_assoc,h3,List.take_append_drop]
 rw [h3]; exact h2
theorem TfB.same {K H:KH} {n:Nat} {f:Nat->Bool} (h:TfB K n f H):TfB K n f (H.put ⟨n,0,none⟩ (boolsR 256 f)):=by
 obtain ⟨e,rfl,h1,h2⟩:=h
 refine ⟨_,put_newT,wrB_keep h1,?_⟩
 have:=rdWr (e:=e.cells) (N:=256) (o:=0) (xs:=[]) (ys:=boolsR 256 f) (zs:=[]) (vs:=boolsR 256 f) (by simpa using h2) rfl rfl
 simpa using this
theorem TfB.le {K H:KH} {n:Nat} {f:Nat->Bool} (h:TfB K n f H) (hn:K n=none):Le K H:=by
 obtain ⟨e,rfl,h1,h2⟩:=h
 exact Le.new hn
end Go.Ew
namespace Go.Proofs.Ytlgpleiobieniaa
open Go.Ev Go.Ew
namespace Va
section
variable (ok : EnvOk (env Try.prog))
include ok
theorem c45 {X H:KH} {BB B:List Nat} {w p:Nat} {S:List St} {a:OA} {c:Nat} {tf:Nat->Bool} {ts:List ByteArray} {m:List Nat} {Q:PQ}
 (hst:SsN X S a) (hX:Le X H) (hk:KIn BB H w S a c tf ts) (hd:DrIn B H p m S.length) (hdis:∀ b∈B,b∉BB) (hXB:∀ b∈B,X b=none)
 (hS:S.length<=900000) (hfl:∀ x,(stAt S x).free.length<=1000000) (hl:ts.length<=900)
 (hnil:m=[]->Q (.int .i64 (-1)) H)
 (hq:m≠[]->∀ bs k ts' BB' H',Bits S.length bs (clM S m)->(∀ x∈clM S m,x<S.length)->KIn BB' H' w S a c tf ts'->(∀ k e,H k=some e->k∉BB->k∉B->H' k=some e)->(∀ b∈BB',b∈BB\/b∈B\/H b=none)->
   ((ts'=ts/\ts[k]? = some (strB bs))\/(ts'=ts++[strB bs]/\k=ts.length/\strB bs∉ts))->Q (.int .i64 ((k:Nat):Int)) H') :
 Does (env Try.prog) 45 [.pointer (some ⟨w,0,none⟩),.pointer (some ⟨p,0,none⟩)] H Q:=by
 have hd0:=hd
 obtain ⟨bs0,bp,am,cm,ex,hs,hB⟩:=hd
 refine fn45 ok ⟨rfl,am,_,cm,hs.c2,fun hz=>?_,fun hz=>?_⟩
 .exact hnil (List.eq_nil_of_length_eq_zero (by have:=of_decide_eq_true hz; omega))
 have hne:m≠[]:=fun z=>by
  subst z
  have:=of_decide_eq_false hz
  simp at this
 let X1:KH:=fun k=>if k∈B then none else H k
 have hX1:Le X1 H:=fun k e q=>by
  by_cases hb:k∈B
  .simp only [X1,if_pos hb] at q; cases q
  .simp only [X1,if_neg hb] at q; exact q
 have hX1o:∀ b∈B,X1 b=none:=fun b hb=>by simp only [X1,if_pos hb]
 have hX1i:∀ k e,k∉B->H k=some e->X1 k=some e:=fun k e hb q=>by simp only [X1,if_neg hb]; exact q
 have hXX1:Le X X1:=fun k e q=>hX1i k e (fun hb=>by rw [hXB k hb] at q; cases q) (hX k e q)
 have hk1:KIn BB X1 w S a c tf ts:=hk.agree fun k e z1 z2=>hX1i k e (fun hb=>hdis k hb z1) z2
 refine c62 ok (hk1.bds (hst.mono hXX1)) ⟨hX1,hd0,hX1o⟩ hS hfl fun H2 B2 hW=>⟨rfl,trivial,rfl,?_⟩
 have hlt:∀ x∈clM S m,x<S.length:=by
  obtain ⟨_,_,_,_,_,hs2,_⟩:=hW.dr
  exact hs2.lt
 have hk2:KIn BB H2 w S a c tf ts:=hk1.up hW.le
 refine c64 ok hW.dr fun bs hbits=>⟨_,rfl,⟨rfl,rfl,⟨rfl,rfl⟩,trivial⟩,?_⟩
 have nw:∀ b,H2 b=none->b∈B\/H b=none:=fun b hb=>by
  by_cases hB1:b∈B
  .exact .inl hB1
  .rcases none_or H b with q | ⟨e,q⟩
   .exact .inr q
   .rw [hW.le b e (hX1i b e hB1 q)] at hb; cases hb
 refine c63 ok hk2 hl (fun k hk=>⟨_,rfl,trivial,?_⟩) fun hno BB' H' hk' hf=>⟨_,rfl,trivial,?_⟩
 .exact hq hne bs k ts BB H2 hbits hlt hk2 (fun k e z1 _ z3=>hW.le k e (hX1i k e z3 z1)) (fun b hb=>.inl hb) (.inl ⟨rfl,hk⟩)
 .exact hq hne bs ts.length (ts++[strB bs]) BB' H' hbits hlt hk' (fun k e z1 z2 z3=>hf.kp k e (hW.le k e (hX1i k e z3 z1)) z2) (fun b hb=>by
   rcases hf.nw b hb with z | z
   .exact .inl z
   .exact .inr (nw b z)) (.inr ⟨rfl,rfl,hno⟩)
theorem c41 {H:KH} {a:OA} {c:Nat} {S:List St} {Q:PQ} (hst:SsN H S a) (hb:ByteS S) (hS:S.length<=900000)
 (hq:∀ f H',Le H H'->(∀ i,i<256->(f i=true↔TurnP S i))->Q (.agg (List.toArray (boolsR 256 f))) H'):Does (env Try.prog) 41 [.slice a S.length c] H Q:=by
 refine fn41 ok fun n1 h1=>?_
 unfold vc41_L2
 have hT0:TfB H n1 (fun _=>false) (H.new n1 (mkEnt (List.replicate 256 (.bool false)) 0)):=by
  refine ⟨_,rfl,rfl,?_⟩
  have:=rd_mk (boolsR 256 fun _=>false) 0
  rw [boolsR_len,boolsR_rep] at this
  rw [boolsR_rep]
  exact this
 refine ⟨fun n3 n4 n5 a6 n7 n8 x9 x10 H11=>n4=n1/\n5=0/\a6=a/\n7=S.length/\x9=(S.length:Nat)/\∃ (k:Nat) (f:Nat->Bool),x10=k/\k<=S.length/\n3=S.length-k/\TfB H n1 f H11/\∀ i,i<256->(f i=true↔TurnP (S.take k) i),⟨S.length,rfl,rfl,rfl,rfl,rfl,rfl,0,_,rfl,by omega,rfl,hT0,fun i hi=>by simp [TurnP]⟩,?_⟩
 rintro n3 n4 n5 a6 n7 n8 x9 x10 H11 ⟨rfl,rfl,rfl,rfl,rfl,k,f,rfl,hk,rfl,hT,hf⟩
 refine ⟨fun hlt=>?_,fun hge=>?_⟩
 .have hlt:k<S.length:=by have:=of_decide_eq_true hlt; omega
  have hsk:S[k]? = some S[k]:=by simp [hlt]
  obtain ⟨⟨lo1,lo2⟩,hi1,hi2⟩:=hb S[k] (List.getElem_mem hlt)
  obtain ⟨cs,g1,g2⟩:=hst
  obtain ⟨b1,o1,z1,r1⟩:=rowAddr ((hT.le h1).kold g1) (by omega)
  obtain ⟨af,cf,g3,g4⟩:=g2.get hsk
  have q1:=r1 (k*5) 5 (by omega)
  rw [g3] at q1
  have e0:Int.toNat ((k:Nat):Int)=k:=by omega
  have wk:IntKind.wrap .i64 (((k:Nat):Int)+1)=((k+1:Nat):Int):=by rw [wrap64 (by omega) (by omega)]; omega
  have hT1:=hT.put (i:=S[k].lo.toNat) (by omega)
  have hstep:∀ i,(TurnP (S.take (k+1)) i↔TurnP (S.take k) i\/(S[k].lo=(i:Nat)\/S[k].hi+1=(i:Nat))):=fun i=>by
   rw [List.take_succ_eq_append_getElem hlt]
   unfold TurnP
   constructor
   .rintro ⟨s,hs,h⟩
    rcases List.mem_append.1 hs with z | z
    .exact .inl ⟨s,z,h⟩
    .have:s=S[k]:=by simpa using z
     subst this; exact .inr h
   .rintro (⟨s,hs,h⟩ | h)
    .exact ⟨s,List.mem_append_left _ hs,h⟩
    .exact ⟨S[k],List.mem_append_right _ (List.mem_singleton.2 rfl),h⟩
  rw [e0,wk]
  refine ⟨⟨by omega,by omega⟩,b1,o1,z1,S[k].lo,S[k].hi,S[k].next,af,S[k].free.length,cf,S[k].e,q1,⟨lo1,by omega⟩,rfl,stOk (hT.at_ (i:=S[k].lo.toNat) (by omega)) rfl,hT.may,fun q2=>?_,fun q2=>?_⟩
  .have q2:=of_decide_eq_true q2
   have w8:IntKind.wrap .u8 (S[k].hi+1)=S[k].hi+1:=by
    exact IntWalk.u8_in _ ⟨by omega,by omega⟩
   rw [w8]
   have hT2:=hT1.put (i:=(S[k].hi+1).toNat) (by omega)
   refine ⟨⟨by omega,by omega⟩,rfl,stOk (hT1.at_ (i:=(S[k].hi+1).toNat) (by omega)) rfl,hT1.may,S.length-(k+1),by omega,rfl,rfl,rfl,rfl,rfl,rfl,k+1,_,rfl,by omega,rfl,hT2,fun i hi=>?_⟩
   rw [hstep,<- hf i hi]
   unfold setF
   by_cases z1:i=(S[k].hi+1).toNat
   .rw [if_pos z1]; simp; right; right; omega
   .rw [if_neg z1]
    by_cases z2:i=S[k].lo.toNat
    .rw [if_pos z2]; simp; right; left; omega
    .rw [if_neg z2]
     constructor
     .exact .inl
     .rintro (z | z | z)
      .exact z
      .omega
      .omega
  .have q2:=of_decide_eq_false q2
   refine ⟨S.length-(k+1),by omega,rfl,rfl,rfl,rfl,rfl,rfl,k+1,_,rfl,by omega,rfl,hT1,fun i hi=>?_⟩
   rw [hstep,<- hf i hi]
   unfold setF
   by_cases z2:i=S[k].lo.toNat
   .rw [if_pos z2]; simp; right; left; omega
   .rw [if_neg z2]
    constructor
    .exact .inl
    .rintro (z | z | z)
     .exact z
     .omega
     .omega
 .have hge:k=S.length:=by have:=of_decide_eq_false hge; omega
  subst hge
  rw [List.take_length] at hf
  have hall:=hT.all
  have hall':ld H11 ⟨n4,0,none⟩ (boolsR 256 f++[]):=by rw [List.append_nil]; exact hall
  have hT2:=hT.same
  refine ⟨f,hall',stOk hall rfl,hT.may,f,by rw [List.append_nil]; exact hT2.all,hq f _ (hT2.le h1) hf⟩
end
end Va
end Go.Proofs.Ytlgpleiobieniaa
namespace Go.Ew
open Go.Ev Go.Deep
def bitsTo (b:Int) (j i:Nat):List Nat:=((List.range j).filter fun k=>bitB b k).map fun k=>i*8+k
theorem bitsTo_succ (b:Int) (j i:Nat):bitsTo b (j+1) i=bitsTo b j i++if bitB b j=true then [i*8+j] else []:=by
 unfold bitsTo
 rw [List.range_succ,List.filter_append,List.map_append]
 by_cases h:bitB b j=true
 .rw [if_pos h]; simp [h]
 .rw [if_neg h]; simp [h]
theorem bitsTo_len (b:Int) (j i:Nat):(bitsTo b j i).length<=j:=by
 unfold bitsTo
 rw [List.length_map]
 have:=List.length_filter_le (fun k=>bitB b k) (List.range j)
 rw [List.length_range] at this
 exact this
theorem membB_app:∀ (l:List Int) (b:Int) (k:Nat),membB (l++[b]) k=membB l k++bitsTo b 8 (k+l.length)
 | [],b,k=>by simp [membB,bitsTo]
 | x :: l,b,k=>by
   simp only [List.cons_append,membB,membB_app l b (k+1),List.append_assoc,List.length_cons]
   rw [show k+1+l.length=k+(l.length+1) by omega]
theorem membB_take {bs:List Int} {i:Nat} (h:i<bs.length):membB (bs.take (i+1)) 0=membB (bs.take i) 0++bitsTo bs[i] 8 i:=by
 rw [List.take_succ_eq_append_getElem h,membB_app,List.length_take]
 rw [show 0+min i bs.length=i by omega]
theorem membB_len:∀ (l:List Int) (k:Nat),(membB l k).length<=8*l.length
 | [],k=>by simp [membB]
 | x :: l,k=>by
   have h1:=membB_len l (k+1)
   have h2:=bitsTo_len x 8 k
   unfold bitsTo at h2
   simp only [membB,List.length_append,List.length_cons]
   omega
end Go.Ew
namespace Go.Proofs.Ytlgpleiobieniaa
open Go.Ev Go.Ew
namespace Va
section
variable (ok : EnvOk (env Try.prog))
include ok
theorem c46 {H:KH} {bs:List Int} {Q:PQ} (hr:∀ b∈bs,0<=b/\b<=255) (hN:bs.length<=120000)
 (hq:∀ a c H',Le H H'->Own H H' 1 a (membB bs 0).length c (natC (membB bs 0))->Q (.slice a (membB bs 0).length c) H'):Does (env Try.prog) 46 [.agg #[.string (strB bs)]] H Q:=by
 refine fn46 ok ?_
 unfold vc46 vc46_L2
 have natApp:∀ (l:List Nat) (x:Nat),natC (l++[x])=natC l++[.int .i64 ((x:Nat):Int)]:=fun l x=>by simp [natC]
 refine ⟨fun n3 s4 a5 n6 n7 x8 x9 H10=>s4=strB bs/\x8=(bs.length:Nat)/\∃ i:Nat,x9=i/\i<=bs.length/\n3=bs.length-i/\Le H H10/\n6=(membB (bs.take i) 0).length/\Own H H10 1 a5 n6 n7 (natC (membB (bs.take i) 0)),⟨bs.length,rfl,by rw [strB_size],0,rfl,by omega,rfl,Le.refl _,rfl,.nil⟩,?_⟩
 rintro n3 s4 a5 n6 n7 x8 x9 H10 ⟨rfl,rfl,i,rfl,hi,rfl,hle,rfl,hown⟩
 refine ⟨fun hlt=>?_,fun hge=>?_⟩
 .have hlt:i<bs.length:=by have:=of_decide_eq_true hlt; omega
  have hbi:bs[i]? = some bs[i]:=by simp [hlt]
  have hby:=strB_at hbi (hr _ (List.getElem_mem hlt))
  have hml:=membB_len (bs.take i) 0
  rw [List.length_take] at hml
  have e0:Int.toNat ((i:Nat):Int)=i:=by omega
  unfold vc46_L1
  refine ⟨fun m3 s4 a5 n6 n7 x8 x9 x10 x11 H12=>s4=strB bs/\x8=(i:Nat)/\x9=(bs.length:Nat)/\x10=(i:Nat)/\∃ j:Nat,x11=j/\j<=8/\m3=8-j/\Le H H12/\n6=(membB (bs.take i) 0++bitsTo bs[i] j i).length/\Own H H12 1 a5 n6 n7 (natC (membB (bs.take i) 0++bitsTo bs[i] j i)),⟨8,rfl,rfl,rfl,rfl,0,rfl,by omega,rfl,hle,by simp [bitsTo],by simpa [bitsTo] using hown⟩,?_⟩
  rintro m3 s4 a5' n6' n7' x8 x9 x10 x11 H12 ⟨rfl,rfl,rfl,rfl,j,rfl,hj,rfl,hle2,rfl,hown2⟩
  refine ⟨fun hlt2=>?_,fun hge2=>?_⟩
  .have hlt2:j<8:=by have:=of_decide_eq_true hlt2; omega
   have e1:Int.toNat ((j:Nat):Int)=j:=by omega
   have hbl:=bitsTo_len bs[i] j i
   have w1:IntKind.wrap .i64 (((i:Nat):Int)*8)=((i*8:Nat):Int):=by rw [wrap64 (by omega) (by omega)]; omega
   have w2:IntKind.wrap .i64 (((i*8:Nat):Int)+((j:Nat):Int))=((i*8+j:Nat):Int):=by rw [wrap64 (by omega) (by omega)]; omega
   have wj:IntKind.wrap .i64 (((j:Nat):Int)+1)=((j+1:Nat):Int):=by rw [wrap64 (by omega) (by omega)]; omega
   have hbs:=bitsTo_succ bs[i] j i
   rw [e0,e1,hby,w1,w2,wj]
   refine ⟨⟨by omega,by rw [strB_size]; omega⟩,by omega,fun h1 n1 h2 n2 h3=>?_,fun h1=>?_⟩
   .have h1:bitB bs[i] j=true:=h1
    rw [if_pos h1] at hbs
    have l2:=Le.new (e:=mkEnt [.int .i64 ((i*8+j:Nat):Int)] 0) h2
    obtain ⟨a',c',H',f1,f2,f3,f4,f5⟩:=(hown2.agree (fun k e _ q=>l2 k e q)).append (ti:=IT1) (m:=1) (new:=[.int .i64 ((i*8+j:Nat):Int)]) (hle2.trans l2) h3 rfl (by simp only [List.length_append]; omega) (by decide) (by decide)
    refine ⟨1,_,knew_of (lit_kold (if_pos rfl) rfl),a',_,c',H',f1,8-(j+1),by omega,rfl,rfl,rfl,rfl,j+1,rfl,by omega,rfl,f3,by rw [hbs]; simp only [List.length_append,List.length_cons,List.length_nil]; omega,?_⟩
    rw [hbs,<- List.append_assoc,natApp]
    exact f2
   .have h1:¬ bitB bs[i] j=true:=by
     have h1:bitB bs[i] j=false:=h1
     rw [h1]; simp
    rw [if_neg h1,List.append_nil] at hbs
    exact ⟨8-(j+1),by omega,rfl,rfl,rfl,rfl,j+1,rfl,by omega,rfl,hle2,by rw [hbs],by rw [hbs]; exact hown2⟩
  .have hge2:j=8:=by have:=of_decide_eq_false hge2; omega
   subst hge2
   refine ⟨bs.length-(i+1),by omega,rfl,rfl,i+1,by rw [wrap64 (by omega) (by omega)]; omega,by omega,rfl,hle2,by rw [membB_take hlt],by rw [membB_take hlt]; exact hown2⟩
 .have hge:i=bs.length:=by have:=of_decide_eq_false hge; omega
  subst hge
  rw [List.take_length] at hown ⊢
  exact hq _ _ _ hle hown
end
end Va
end Go.Proofs.Ytlgpleiobieniaa
namespace Go.Ew
open Go.Ev Go.Deep
theorem stAt_mem {S:List St} {x:Nat} (h:x<S.length):stAt S x∈S:=by
 unfold stAt
 simp [h]
theorem takes_same {S:List St} {c:Nat} (h:¬ TurnP S (c+1)) {x:Nat} (hx:x<S.length):((stAt S x).lo<=((c+1:Nat):Int)/\((c+1:Nat):Int)<=(stAt S x).hi)↔((stAt S x).lo<=((c:Nat):Int)/\((c:Nat):Int)<=(stAt S x).hi):=by
 have h1:(stAt S x).lo≠((c+1:Nat):Int):=fun z=>h ⟨_,stAt_mem hx,.inl z⟩
 have h2:(stAt S x).hi+1≠((c+1:Nat):Int):=fun z=>h ⟨_,stAt_mem hx,.inr z⟩
 omega
theorem move_turn {S:List St} {c:Nat} (h:¬ TurnP S (c+1)):∀ (K t:List Nat),(∀ x∈K,x<S.length)->K.foldl (moveM S ((c+1:Nat):Int)) t=K.foldl (moveM S ((c:Nat):Int)) t
 | [],t,_=>rfl
 | x :: K,t,hK=>by
   have hs:=takes_same h (hK x (by simp))
   have:moveM S ((c+1:Nat):Int) t x=moveM S ((c:Nat):Int) t x:=by
    unfold moveM
    by_cases z:(stAt S x).lo<=((c:Nat):Int)/\((c:Nat):Int)<=(stAt S x).hi
    .rw [if_pos z,if_pos (hs.2 z)]
    .rw [if_neg z,if_neg fun q=>z (hs.1 q)]
   simp only [List.foldl_cons,this]
   exact move_turn h K _ fun y hy=>hK y (by simp [hy])
theorem move_zero {S:List St} (h:¬ TurnP S 0) (hb:ByteS S):∀ (K t:List Nat),(∀ x∈K,x<S.length)->K.foldl (moveM S ((0:Nat):Int)) t=t
 | [],t,_=>rfl
 | x :: K,t,hK=>by
   have hx:=hK x (by simp)
   have h1:(stAt S x).lo≠((0:Nat):Int):=fun z=>h ⟨_,stAt_mem hx,.inl z⟩
   have h2:=(hb _ (stAt_mem hx)).1
   have:moveM S ((0:Nat):Int) t x=t:=by
    unfold moveM
    rw [if_neg (fun z=>by omega)]
   simp only [List.foldl_cons,this]
   exact move_zero h hb K _ fun y hy=>hK y (by simp [hy])
theorem Bits.of_same {N:Nat} {bs:List Int} {m n:List Nat} (h:Bits N bs m) (hs:SameS m n):Bits N bs n:=⟨h.len,h.rng,fun i j b hb hj=>(h.is i j b hb hj).trans (hs _)⟩
def GoodN (S:List St) (ts:List ByteArray) (v:Int) (Z:List Nat):Prop:=(Z=[]/\v = -1)\/(Z≠[]/\∃ (k:Nat) (bs:List Int),v=((k:Nat):Int)/\ts[k]? = some (strB bs)/\Bits S.length bs Z)
theorem GoodN.same {S:List St} {ts:List ByteArray} {v:Int} {Z Z':List Nat} (h:GoodN S ts v Z) (hs:SameS Z Z'):GoodN S ts v Z':=by
 rcases h with ⟨h1,h2⟩ | ⟨h1,k,bs,h2,h3,h4⟩
 .exact .inl ⟨hs.nil.1 h1,h2⟩
 .exact .inr ⟨fun z=>h1 (hs.nil.2 z),k,bs,h2,h3,h4.of_same hs⟩
theorem GoodN.app {S:List St} {ts r:List ByteArray} {v:Int} {Z:List Nat} (h:GoodN S ts v Z):GoodN S (ts++r) v Z:=by
 rcases h with h | ⟨h1,k,bs,h2,h3,h4⟩
 .exact .inl h
 .refine .inr ⟨h1,k,bs,h2,?_,h4⟩
  have hk:k<ts.length:=by
   rcases Nat.lt_or_ge k ts.length with z | z
   .exact z
   .rw [List.getElem?_eq_none z] at h3; cases h3
  rw [List.getElem?_append_left hk]
  exact h3
def mxF (f:Nat->Int):Nat->Int->Int
 | 0,m=>m
 | b+1,m=>max (mxF f b m) (f b)
theorem mxF_congr {f g:Nat->Int} {m:Int}:∀ {n:Nat},(∀ b,b<n->f b=g b)->mxF f n m=mxF g n m
 | 0,_=>rfl
 | n+1,h=>by
   simp only [mxF]
   rw [mxF_congr fun b hb=>h b (by omega),h n (by omega)]
structure RowC (S:List St) (K:List Nat) (ts ts':List ByteArray) (f:Nat->Int) (n:Nat):Prop where
 fin:f 256=endM S K
 pre:∃ r,ts'=ts++r/\r.length<=n
 good:∀ b,b<n->GoodN S ts' (f b) (stepM S ((b:Nat):Int) K)
 new:∀ t∈ts',t∈ts\/∃ (b:Nat) (bs:List Int),t=strB bs/\Bits S.length bs (stepM S ((b:Nat):Int) K)
 nod:ts.Nodup->ts'.Nodup
 up:mxF f n ((ts.length:Int)-1)=(ts'.length:Int)-1
 ups:∀ b,b<n->f b<=mxF f b ((ts.length:Int)-1)+1
theorem RowC.nil {S:List St} {K:List Nat} {ts:List ByteArray} {f:Nat->Int} (h:f 256=endM S K):RowC S K ts ts f 0:=⟨h,⟨[],by simp,by simp⟩,fun b hb=>by omega,fun t ht=>.inl ht,id,rfl,fun b hb=>by omega⟩
def updF (f:Nat->Int) (j:Nat) (x:Int):Nat->Int:=fun k=>if k=j then x else f k
theorem RowC.step {S:List St} {K:List Nat} {ts ts1 ts2:List ByteArray} {f:Nat->Int} {n:Nat} {v:Int} (h:RowC S K ts ts1 f n) (hn:n<256) (hv:GoodN S ts2 v (stepM S ((n:Nat):Int) K))
 (h2:(ts2=ts1/\v<ts1.length)\/(∃ bs,ts2=ts1++[strB bs]/\v=ts1.length/\strB bs∉ts1/\Bits S.length bs (stepM S ((n:Nat):Int) K))):RowC S K ts ts2 (updF f n v) (n+1):=by
 have hf:∀ b,b<n->updF f n v b=f b:=fun b hb=>by unfold updF; rw [if_neg (by omega)]
 have hfn:updF f n v n=v:=by unfold updF; rw [if_pos rfl]
 have hmx:=mxF_congr (m:=(ts.length:Int)-1) hf
 obtain ⟨r,hr1,hr2⟩:=h.pre
 have happ:∃ q,ts2=ts1++q/\q.length<=1:=by
  rcases h2 with ⟨e,_⟩ | ⟨bs,e,_⟩
  .exact ⟨[],by simp [e],by simp⟩
  .exact ⟨[strB bs],e,by simp⟩
 obtain ⟨q,hq1,hq2⟩:=happ
 refine ⟨?_,⟨r++q,by rw [hq1,hr1,List.append_assoc],by simp; omega⟩,fun b hb=>?_,fun t ht=>?_,fun hnd=>?_,?_,fun b hb=>?_⟩
 .unfold updF; rw [if_neg (by omega)]; exact h.fin
 .by_cases e:b=n
  .subst e; rw [hfn]; exact hv
  .rw [hf b (by omega),hq1]; exact (h.good b (by omega)).app
 .rcases h2 with ⟨e,_⟩ | ⟨bs,e,_,_,h5⟩
  .rw [e] at ht; exact h.new t ht
  .rw [e] at ht
   rcases List.mem_append.1 ht with z | z
   .exact h.new t z
   .exact .inr ⟨n,bs,by simpa using z,h5⟩
 .rcases h2 with ⟨e,_⟩ | ⟨bs,e,_,h4,_⟩
  .rw [e]; exact h.nod hnd
  .rw [e,List.nodup_append]
   exact ⟨h.nod hnd,by simp,fun a z1 b z2 z3=>by
    have z2:b=strB bs:=by simpa using z2
    exact h4 (by rw [<- z2,<- z3]; exact z1)⟩
 .simp only [mxF]
  rw [hmx,h.up,hfn]
  rcases h2 with ⟨e,h3⟩ | ⟨bs,e,h3,_⟩
  .rw [e]; omega
  .rw [e,h3]; simp; omega
 .by_cases e:b=n
  .subst e
   rw [hfn,hmx,h.up]
   rcases h2 with ⟨e,h3⟩ | ⟨bs,e,h3,_⟩<;>omega
  .rw [hf b (by omega),mxF_congr (n:=b) (g:=f) fun k hk=>hf k (by omega)]
   exact h.ups b (by omega)
theorem intsR_get {k:IntKind} {n:Nat} {f:Nat->Int} (j:Nat):(intsR k n f)[j]? = if j<n then some (.int k (f j)) else none:=by
 by_cases h:j<n
 .rw [if_pos h]; simp [intsR,h]
 .rw [if_neg h,List.getElem?_eq_none (by rw [intsR_len]; omega)]
theorem intsR_drop {k:IntKind} {n i:Nat} (f:Nat->Int) (h:i<n):(intsR k n f).drop i = .int k (f i) :: (intsR k n f).drop (i+1):=by
 have hl:i<(intsR k n f).length:=by rw [intsR_len]; exact h
 rw [List.drop_eq_getElem_cons hl]
 simp [intsR]
theorem intsR_split {k:IntKind} {n i:Nat} (f:Nat->Int) (h:i<n):intsR k n f=(intsR k n f).take i++[.int k (f i)]++(intsR k n f).drop (i+1):=by
 rw [List.append_assoc]
 have h3:[.int k (f i)]++(intsR k n f).drop (i+1)=(intsR k n f).drop i:=by
  rw [intsR_drop f h]; rfl
 rw [h3,List.take_append_drop]
theorem intsR_upd {k:IntKind} {n i:Nat} (f:Nat->Int) (x:Int) (h:i<n):(intsR k n f).take i++[.int k x]++(intsR k n f).drop (i+1)=intsR k n (updF f i x):=by
 have hl:=intsR_len k n f
 apply List.ext_getElem?
 intro j
 rw [intsR_get,List.append_assoc]
 by_cases h1:j<i
 .rw [List.getElem?_append_left (by simp [hl]; omega),List.getElem?_take_of_lt h1,intsR_get,if_pos (by omega),if_pos (by omega)]
  unfold updF
  rw [if_neg (by omega)]
 .rw [List.getElem?_append_right (by simp [hl]; omega)]
  have hm:min i n=i:=by omega
  simp only [List.length_take,hl,hm]
  by_cases h2:j=i
  .subst h2
   rw [Nat.sub_self,if_pos h]
   simp [updF]
  .obtain ⟨d,hd⟩:∃ d,j-i=d+1:=⟨j-i-1,by omega⟩
   rw [hd]
   simp only [List.cons_append,List.nil_append,List.getElem?_cons_succ,List.getElem?_drop]
   have:i+1+d=j:=by omega
   rw [this,intsR_get]
   unfold updF
   rw [if_neg h2]
theorem intsR_last (k:IntKind) (n:Nat) (x:Int):List.replicate n (.int k 0)++[.int k x]=intsR k (n+1) (fun j=>if j=n then x else 0):=by
 apply List.ext_getElem?
 intro j
 rw [intsR_get]
 by_cases h:j<n
 .rw [List.getElem?_append_left (by simpa using h),List.getElem?_replicate,if_pos h,if_pos (by omega),if_neg (by omega)]
 .rw [List.getElem?_append_right (by simp; omega),List.length_replicate]
  by_cases h2:j=n
  .subst h2; simp
  .obtain ⟨d,hd⟩:∃ d,j-n=d+1:=⟨j-n-1,by omega⟩
   rw [hd,if_neg (by omega)]; rfl
theorem intsR_rep (k:IntKind) (n:Nat) (x:Int):intsR k n (fun _=>x)=List.replicate n (.int k x):=by
 unfold intsR
 rw [List.map_const',List.length_range]
theorem intsR_app (k:IntKind) (m n:Nat) (f g:Nat->Int):intsR k m g++intsR k n f=intsR k (m+n) fun j=>if j<m then g j else f (j-m):=by
 apply List.ext_getElem?
 intro j
 rw [intsR_get]
 by_cases h:j<m
 .rw [List.getElem?_append_left (by rw [intsR_len]; exact h),intsR_get,if_pos h,if_pos (by omega),if_pos h]
 .rw [List.getElem?_append_right (by rw [intsR_len]; omega),intsR_len,intsR_get]
  by_cases h2:j<m+n
  .rw [if_pos (by omega),if_pos h2,if_neg h]
  .rw [if_neg (by omega),if_neg h2]
def RowI (H:KH) (n:Nat) (f:Nat->Int):Prop:=∃ e,H n=some e/\wrB e=true/\rd e.cells 0 257=some (intsR .i64 257 f)
theorem RowI.at_ {H:KH} {n:Nat} {f:Nat->Int} (h:RowI H n f) {i:Nat} (hi:i<257):ld H ⟨n,0+0+i*1,none⟩ [.int .i64 (f i)]:=by
 obtain ⟨e,h0,h1,h2⟩:=h
 have hl:ld H ⟨n,0,none⟩ (intsR .i64 257 f):=⟨rfl,e,h0,by simpa [intsR_len] using h2⟩
 have:=ldSub hl (i*1) 1 (by rw [intsR_len]; omega)
 have h3:((intsR .i64 257 f).drop (i*1)).take 1=[.int .i64 (f i)]:=by
  rw [Nat.mul_one,intsR_drop f hi]; rfl
 rw [h3] at this
 exact this
theorem RowI.all {H:KH} {n:Nat} {f:Nat->Int} (h:RowI H n f):ld H ⟨n,0,none⟩ (intsR .i64 257 f):=by
 obtain ⟨e,h0,h1,h2⟩:=h
 exact ⟨rfl,e,h0,by simpa [intsR_len] using h2⟩
theorem RowI.may {H:KH} {n:Nat} {f:Nat->Int} (h:RowI H n f):KH.may H n:=by
 obtain ⟨e,h0,h1,h2⟩:=h
 exact ⟨⟨e,h0,h1⟩⟩
theorem RowI.put {H:KH} {n:Nat} {f:Nat->Int} (h:RowI H n f) {i:Nat} (hi:i<257) (x:Int):RowI (H.put ⟨n,0+0+i*1,none⟩ [.int .i64 x]) n (updF f i x):=by
 obtain ⟨e,h0,h1,h2⟩:=h
 refine ⟨⟨wr e.cells (0+0+i*1) [.int .i64 x],e.len,e.unk,none⟩,by simp only [KH.put,if_true,h0,Option.map_some],wrB_keep h1,?_⟩
 rw [<- intsR_upd f x hi]
 exact rdWr (ys:=[.int .i64 (f i)]) (by rw [<- intsR_split f hi]; exact h2) (by simp [intsR_len]; omega) rfl
theorem RowI.set {H:KH} {n:Nat} {f:Nat->Int} (h:RowI H n f) (g:Nat->Int):RowI (H.put ⟨n,0,none⟩ (intsR .i64 257 g)) n g:=by
 obtain ⟨e,h0,h1,h2⟩:=h
 refine ⟨⟨wr e.cells 0 (intsR .i64 257 g),e.len,e.unk,none⟩,by simp only [KH.put,if_true,h0,Option.map_some],wrB_keep h1,?_⟩
 have:=rdWr (e:=e.cells) (N:=257) (o:=0) (xs:=[]) (ys:=intsR .i64 257 f) (zs:=[]) (vs:=intsR .i64 257 g) (by simpa using h2) rfl (by rw [intsR_len,intsR_len])
 simpa using this
theorem RowI.agree {H H':KH} {n:Nat} {f:Nat->Int} (h:RowI H n f) (hk:∀ e,H n=some e->H' n=some e):RowI H' n f:=by
 obtain ⟨e,h0,h1,h2⟩:=h
 exact ⟨e,hk e h0,h1,h2⟩
theorem RowI.mk (H:KH) (n:Nat):RowI (H.new n (mkEnt (List.replicate 257 (.int .i64 0)) 0)) n (fun _=>0):=by
 refine ⟨_,if_pos rfl,rfl,?_⟩
 have:=rd_mk (intsR .i64 257 fun _=>0) 0
 rw [intsR_len,intsR_rep] at this
 rw [intsR_rep]
 exact this
theorem put_at {H:KH} {p o:Nat} {vs:List Value} {k:Nat} (hk:k≠p):(H.put ⟨p,o,none⟩ vs) k=H k:=by
 simp only [KH.put]; rw [if_neg hk]
end Go.Ew
namespace Go.Proofs.Ytlgpleiobieniaa
open Go.Ev Go.Ew
namespace Va
section
variable (ok : EnvOk (env Try.prog))
include ok
theorem c25 {X H:KH} {BB:List Nat} {w:Nat} {S:List St} {a:OA} {c:Nat} {tf:Nat->Bool} {ts:List ByteArray} {K:List Nat} {bs:List Int} {Q:PQ}
 (hst:SsN X S a) (hX:Le X H) (hXB:∀ b∈BB,X b=none) (hk:KIn BB H w S a c tf ts) (htf:∀ i,i<256->(tf i=true↔TurnP S i)) (hby:ByteS S) (hb:Bits S.length bs K) (hK:∀ x∈K,x<S.length)
 (hS:S.length<=900000) (hfl:∀ x,(stAt S x).free.length<=1000000) (hl:ts.length<=600)
 (hq:∀ f ts' BB' H',KIn BB' H' w S a c tf ts'->Fr1 BB BB' H H'->RowC S K ts ts' f 256->Q (.agg (List.toArray (intsR .i64 257 f))) H') :
 Does (env Try.prog) 25 [.pointer (some ⟨w,0,none⟩),.agg #[.string (strB bs)]] H Q:=by
 refine fn25 ok fun n1 h1=>?_
 have l1:=Le.new (e:=mkEnt (List.replicate 257 (.int .i64 0)) 0) h1
 have hbl:=hb.len
 refine c46 ok hb.rng (by omega) fun am cm H3 hle3 hown=>⟨am,_,cm,rfl,?_⟩
 have hmem:SameS (membB bs 0) K:=hb.memb hK
 have hmlt:∀ x∈membB bs 0,x<S.length:=fun x hx=>hK x ((hmem x).1 hx)
 have hml:=membB_len bs 0
 have hH3:Le H H3:=l1.trans hle3
 have hk3:KIn BB H3 w S a c tf ts:=hk.up hH3
 have hBH:∀ b∈BB,∃ e,H b=some e:=hk.known
 have hrow3:=hown.cells
 refine c47 ok (hk3.bds (hst.mono (hX.trans hH3))) (Le.refl _) hrow3 hmlt hS (by omega) ⟨_,rfl,fun n10 h10=>?_⟩
 have hR0:=RowI.mk H3 n10
 refine ⟨stOk hR0.all (by show _=(List.replicate 256 (Value.int .i64 0)++[Value.int .i64 (endM S (membB bs 0))]).length; rw [intsR_len,List.length_append,List.length_replicate]; rfl),hR0.may,?_⟩
 -- what stays
 let Y:KH:=fun k=>if k∈BB then none else H3 k
 have hY:Le Y H3:=fun k e q=>by
  by_cases hb:k∈BB
  .simp only [Y,if_pos hb] at q; cases q
  .simp only [Y,if_neg hb] at q; exact q
 have hYo:∀ b∈BB,Y b=none:=fun b hb=>by simp only [Y,if_pos hb]
 have hYi:∀ k e,k∉BB->H3 k=some e->Y k=some e:=fun k e hb q=>by simp only [Y,if_neg hb]; exact q
 have hXY:Le X Y:=fun k e q=>hYi k e (fun hb=>by rw [hXB k hb] at q; cases q) (hH3 k e (hX k e q))
 have hn1B:n1∉BB:=fun hb=>by
  obtain ⟨e,he⟩:=hBH n1 hb
  rw [he] at h1; cases h1
 have hY1:Y n1=some (mkEnt (List.replicate 257 (.int .i64 0)) 0):=hYi n1 _ hn1B (hle3 n1 _ (if_pos rfl))
 have hrowY:kold Y 1 am (membB bs 0).length=some (natC (membB bs 0)):=(hown.agree (H':=Y) fun k e z1 z2=>hYi k e (fun hb=>by
  obtain ⟨e',he⟩:=hBH k hb
  have:=hown.out z1
  rw [l1 k e' he] at this; cases this) z2).cells
 have hYn:Y n10=none:=hY.none h10
 have hn10B:n10∉BB:=fun hb=>by
  obtain ⟨e,he⟩:=hk3.known n10 hb
  rw [he] at h10; cases h10
 unfold vc25_L3
 rw [show Array.toList (List.toArray (List.replicate 256 (Value.int .i64 0)++[Value.int .i64 (endM S (membB bs 0))]))=intsR .i64 257 (fun j=>if j=256 then endM S (membB bs 0) else 0) from intsR_last .i64 256 _]
 have hend:endM S (membB bs 0)=endM S K:=endM_same hmem
 have hR1:=hR0.set (fun j=>if j=256 then endM S (membB bs 0) else 0)
 have hHk:∀ k e,H k=some e->k≠n10:=fun k e q z=>by subst z; rw [hH3 k e q] at h10; cases h10
 refine ⟨fun n3 n4 n5 n6 n7 a8 n9 n10' n11 n12 x13 x14 H15=>n4=w/\n5=0/\n6=n1/\n7=0/\a8=am/\n9=(membB bs 0).length/\n11=n10/\n12=0/\∃ (i:Nat) (f:Nat->Int) (ts':List ByteArray) (BB':List Nat),x14=i/\i<=256/\n3=256-i/\KIn BB' H15 w S a c tf ts'/\Le Y H15/\(∀ b∈BB',Y b=none/\b≠n10)/\RowI H15 n10 f/\RowC S K ts ts' f i/\(i=0->x13 = -1)/\(∀ j,i=j+1->x13=f j)/\(∀ k e,H k=some e->k∉BB->H15 k=some e)/\(∀ b∈BB',b∈BB\/H b=none),
  ⟨256,rfl,rfl,rfl,rfl,rfl,rfl,rfl,rfl,rfl,rfl,rfl,0,_,ts,BB,rfl,by omega,rfl,?_,?_,fun b hb=>⟨hYo b hb,fun z=>hn10B (by rw [<- z]; exact hb)⟩,hR1,.nil (by show (if 256=256 then _ else _)=_; rw [if_pos rfl]; exact hend),fun _=>rfl,fun j hj=>by omega,fun k e z1 z2=>?_,fun b hb=>.inl hb⟩,?_⟩
 .exact hk3.agree fun k e z1 z2=>by
   have hne:k≠n10:=fun z=>hn10B (by rw [<- z]; exact z1)
   rw [put_at hne]
   exact Le.new h10 k e z2
 .intro k e q
  have hne:k≠n10:=fun z=>by subst z; rw [hYn] at q; cases q
  rw [put_at hne]
  exact Le.new h10 k e (hY k e q)
 .rw [put_at (hHk k e z1)]
  exact Le.new h10 k e (hH3 k e z1)
 rintro n3 n4 n5 n6 n7 a8 n9 n10' n11 n12 x13 x14 H15 ⟨rfl,rfl,rfl,rfl,rfl,rfl,rfl,rfl,i,f,ts',BB',rfl,hi,rfl,hkI,hYH,hBY,hR,hC,hv0,hv1,hkp,hnw⟩
 refine ⟨fun hlt=>?_,fun hge=>?_⟩
 .have hlt:i<256:=by have:=of_decide_eq_true hlt; omega
  have e0:Int.toNat ((i:Nat):Int)=i:=by omega
  have wi:IntKind.wrap .i64 (((i:Nat):Int)+1)=((i+1:Nat):Int):=by rw [wrap64 (by omega) (by omega)]; omega
  have w8:IntKind.wrap .u8 ((i:Nat):Int)=((i:Nat):Int):=IntWalk.u8_in _ ⟨by omega,by omega⟩
  obtain ⟨mp,ka,kc,ex,hs,hBe⟩:=hkI
  have hkI:KIn BB' H15 n4 S a c tf ts':=⟨mp,ka,kc,ex,hs,hBe⟩
  obtain ⟨r,hr1,hr2⟩:=hC.pre
  have hts:ts'.length<=900:=by rw [hr1]; simp; omega
  -- where the ways meet
  have join:∀ (v:Int) (ts2:List ByteArray) (BB2:List Nat) (H2:KH),KIn BB2 H2 n4 S a c tf ts2->Le Y H2->(∀ b∈BB2,Y b=none/\b≠n11)->RowI H2 n11 f->GoodN S ts2 v (stepM S ((i:Nat):Int) K)->
   ((ts2=ts'/\v<ts'.length)\/(∃ bs,ts2=ts'++[strB bs]/\v=ts'.length/\strB bs∉ts'/\Bits S.length bs (stepM S ((i:Nat):Int) K)))->
   (∀ k e,H k=some e->k∉BB->H2 k=some e)->(∀ b∈BB2,b∈BB\/H b=none)->
   vc25_J0 ((i:Nat):Int) v H2 n11 0 (256-i) (fun n3 n4_1 n5 n6_1 n7 a8_1 n9 n10' n11_1 n12 x13 x14 H15=>n4_1=n4/\n5=0/\n6_1=n6/\n7=0/\a8_1=a8/\n9=(membB bs 0).length/\n11_1=n11/\n12=0/\∃ (i:Nat) (f:Nat->Int) (ts':List ByteArray) (BB':List Nat),x14=i/\i<=256/\n3=256-i/\KIn BB' H15 n4 S a c tf ts'/\Le Y H15/\(∀ b∈BB',Y b=none/\b≠n11)/\RowI H15 n11 f/\RowC S K ts ts' f i/\(i=0->x13 = -1)/\(∀ j,i=j+1->x13=f j)/\(∀ k e,H k=some e->k∉BB->H15 k=some e)/\(∀ b∈BB',b∈BB\/H b=none)) n4 0 n6 0 a8 (membB bs 0).length n10':=by
   intro v ts2 BB2 H2 j1 j2 j3 j4 j5 j6 j7 j8
   unfold vc25_J0
   rw [e0,wi]
   refine ⟨rfl,⟨by omega,by omega⟩,rfl,stOk (j4.at_ (i:=i) (by omega)) rfl,j4.may,256-(i+1),by omega,rfl,rfl,rfl,rfl,rfl,rfl,rfl,rfl,rfl,rfl,rfl,i+1,updF f i v,ts2,BB2,rfl,by omega,rfl,?_,?_,j3,j4.put (i:=i) (by omega) v,hC.step hlt j5 j6,fun z=>by omega,fun j hj=>?_,fun k e z1 z2=>?_,j8⟩
   .exact j1.agree fun k e z1 z2=>by rw [put_at (j3 k z1).2]; exact z2
   .intro k e q
    have hne:k≠n11:=fun z=>by subst z; rw [hYn] at q; cases q
    rw [put_at hne]; exact j2 k e q
   .have:i=j:=by omega
    subst this
    unfold updF; rw [if_pos rfl]
   .rw [put_at (hHk k e z1)]; exact j7 k e z1 z2
  refine ⟨rfl,⟨by omega,by omega⟩,rfl,tf i,by rw [e0]; exact hs.turn hlt,fun ht=>?_,fun ht=>?_⟩
  .rw [w8]
   have hYst:SsN H15 S a:=hst.mono (hXY.trans hYH)
   refine c48 ok (hkI.bds hYst) (Le.refl _) (hYH.kold hrowY) hmlt hS (by omega) fun H4 B p hW hle4 hfr=>⟨p,0,rfl,?_⟩
   have hk4:KIn BB' H4 n4 S a c tf ts':=hkI.up hle4
   have hBk:∀ b∈BB',∃ e,H15 b=some e:=hkI.known
   have hstep:SameS (stepM S ((i:Nat):Int) (membB bs 0)) (stepM S ((i:Nat):Int) K):=stepM_same hmem
   refine c45 ok hYst hle4 hk4 hW.dr (fun b z1 z2=>?_) hfr hS hfl hts (fun hz=>⟨_,rfl,?_⟩) (fun hz bs2 k ts2 BB2 H5 q1 q1b q2 q3 q4 q5=>⟨_,rfl,?_⟩)
   .obtain ⟨e,he⟩:=hBk b z2
    rw [hfr b z1] at he; cases he
   .have hz':stepM S ((i:Nat):Int) K=[]:=hstep.nil.1 (step_nil.2 hz)
    refine join (-1) ts' BB' H4 hk4 (hYH.trans hle4) hBY (hR.agree fun e q=>hle4 _ e q) (.inl ⟨hz',rfl⟩) (.inl ⟨rfl,by omega⟩) (fun k e z1 z2=>hle4 k e (hkp k e z1 z2)) hnw
   .have q1:Bits S.length bs2 (stepM S ((i:Nat):Int) K):=Bits.of_same (m:=stepM S ((i:Nat):Int) (membB bs 0)) q1 hstep
    have hne:stepM S ((i:Nat):Int) K≠[]:=fun z=>hz (step_nil.1 (hstep.nil.2 z))
    have hkp4:∀ k e,H15 k=some e->k∉BB'->H5 k=some e:=fun k e z1 z2=>q3 k e (hle4 k e z1) z2 fun hb=>by rw [hfr k hb] at z1; cases z1
    have hfresh:∀ b∈BB2,b∈BB'\/H15 b=none:=fun b hb=>by
     rcases q4 b hb with z | z | z
     .exact .inl z
     .exact .inr (hfr b z)
     .exact .inr (hle4.none z)
    have hY5:Le Y H5:=fun k e q=>hkp4 k e (hYH k e q) fun hb=>by rw [(hBY k hb).1] at q; cases q
    have hnY:∀ b∈BB2,Y b=none/\b≠n11:=fun b hb=>by
     rcases hfresh b hb with z | z
     .exact hBY b z
     .refine ⟨hYH.none z,fun y=>?_⟩
      subst y
      obtain ⟨e,he,_⟩:=hR
      rw [he] at z; cases z
    have hR5:RowI H5 n11 f:=hR.agree fun e q=>hkp4 n11 e q fun hb=>(hBY n11 hb).2 rfl
    have hkH:∀ k e,H k=some e->k∉BB->H5 k=some e:=fun k e z1 z2=>hkp4 k e (hkp k e z1 z2) fun hb=>by
     rcases hnw k hb with z | z
     .exact z2 z
     .rw [z] at z1; cases z1
    have hnH:∀ b∈BB2,b∈BB\/H b=none:=fun b hb=>by
     rcases hfresh b hb with z | z
     .exact hnw b z
     .rcases none_or H b with y | ⟨e,y⟩
      .exact .inr y
      .by_cases hbb:b∈BB
       .exact .inl hbb
       .rw [hkp b e y hbb] at z; cases z
    rcases q5 with ⟨rfl,q6⟩ | ⟨rfl,rfl,q6⟩
    .have hkl:k<ts2.length:=by
      rcases Nat.lt_or_ge k ts2.length with z | z
      .exact z
      .rw [List.getElem?_eq_none z] at q6; cases q6
     exact join _ ts2 BB2 H5 q2 hY5 hnY hR5 (.inr ⟨hne,k,bs2,rfl,q6,q1⟩) (.inl ⟨rfl,by omega⟩) hkH hnH
    .exact join _ _ BB2 H5 q2 hY5 hnY hR5 (.inr ⟨hne,ts'.length,bs2,rfl,by simp,q1⟩) (.inr ⟨bs2,rfl,rfl,q6,q1⟩) hkH hnH
  .have hnt:¬ TurnP S i:=fun z=>by rw [(htf i hlt).2 z] at ht; cases ht
   have hg:GoodN S ts' x13 (stepM S ((i:Nat):Int) K):=by
    cases i with
    | zero =>
      refine .inl ⟨?_,hv0 rfl⟩
      rw [step_nil,move_zero hnt hby K [] hK]
    | succ j =>
      have h2:=hC.good j (by omega)
      rw [hv1 j rfl]
      have:stepM S ((j+1:Nat):Int) K=stepM S ((j:Nat):Int) K:=by
       unfold stepM
       rw [move_turn hnt K [] hK]
      rw [this]; exact h2
   have hlt2:x13<ts'.length:=by
    rcases hg with ⟨_,z⟩ | ⟨_,k,b2,z1,z2,_⟩
    .omega
    .have hkl:k<ts'.length:=by
      rcases Nat.lt_or_ge k ts'.length with z | z
      .exact z
      .rw [List.getElem?_eq_none z] at z2; cases z2
     omega
   exact join x13 ts' BB' H15 hkI hYH hBY hR hg (.inl ⟨rfl,hlt2⟩) hkp hnw
 .have hge:i=256:=by have:=of_decide_eq_false hge; omega
  subst hge
  have hall:=hR.all
  have hR1:RowI H15 n6 (fun _=>0):=(RowI.mk H3 n6).agree fun e q=>by
   have:some (mkEnt (List.replicate 257 (.int .i64 0)) 0)=some e:=by rw [<- q]; exact (if_pos rfl).symm
   rw [<- this]
   exact hYH n6 _ hY1
  have hR2:=hR1.set f
  have hY1n:∀ b∈BB',b≠n6:=fun b hb z=>by
   have:=(hBY b hb).1
   rw [z,hY1] at this; cases this
  refine ⟨f,by rw [List.append_nil]; exact hall,stOk hR1.all (by show _=(intsR .i64 257 f).length; rw [intsR_len,intsR_len]),hR1.may,f,by rw [List.append_nil]; exact hR2.all,?_⟩
  refine hq f ts' BB' _ (hkI.agree fun k e z1 z2=>by rw [show Array.toList (List.toArray (intsR .i64 257 f))=intsR .i64 257 f from rfl,put_at (hY1n k z1)]; exact z2) ⟨fun k e z1 z2=>?_,hnw⟩ hC
  have:k≠n6:=fun z=>by subst z; rw [z1] at h1; cases h1
  rw [show Array.toList (List.toArray (intsR .i64 257 f))=intsR .i64 257 f from rfl,put_at this]
  exact hkp k e z1 z2
end
end Va
end Go.Proofs.Ytlgpleiobieniaa
namespace Go.Ew
open Go.Ev Go.Deep
def IC (H:KH) (a:OA) (n:Nat) (g:Nat->Int):Prop:=n=0\/∃ b o e,a=some ⟨b,o,none⟩/\H b=some e/\∀ j,j<n->tget e.cells (o+j)=some (.int .i64 (g j))
theorem IC.ld {H:KH} {a:OA} {n:Nat} {g:Nat->Int} (h:IC H a n g) {j:Nat} (hj:j<n):∃ b o,a=some ⟨b,o,none⟩/\∀ j,j<n->ld H ⟨b,o+j,none⟩ [.int .i64 (g j)]:=by
 rcases h with h | ⟨b,o,e,h1,h2,h3⟩
 .omega
 .refine ⟨b,o,h1,fun j hj=>⟨rfl,e,h2,?_⟩⟩
  show rd e.cells (o+j) 1=_
  simp only [rd,h3 j hj]
theorem byteAt_rng (s:ByteArray) (i:Nat):0<=byteAt s i/\byteAt s i<256:=by
 unfold byteAt
 have:=UInt8.toNat_lt ((s.data.toList[i]?).getD 0)
 omega
theorem row_lt {x n j:Nat} (h:x<n) (hj:j<257):x*257+j<n*257:=by
 have:(x+1)*257<=n*257:=Nat.mul_le_mul_right _ h
 omega
def lg (g:Nat->Int) (L:Nat) (s:ByteArray):Nat->Nat->Nat->Int × Int × Bool->Int × Int × Bool
 | 0,_,_,st=>st
 | f+1,i,p,st =>
   if g (p*257+(byteAt s i).toNat)<0 then st else if (L:Int)<=g (p*257+(byteAt s i).toNat) then st else
    lg g L s f (i+1) (g (p*257+(byteAt s i).toNat)).toNat (if g ((g (p*257+(byteAt s i).toNat)).toNat*257+256)≠0 then (IntKind.wrap .i64 (g ((g (p*257+(byteAt s i).toNat)).toNat*257+256)-1),IntKind.wrap .i64 ((i:Int)+1),true) else st)
def lgR (g:Nat->Int) (L:Nat) (s:ByteArray):Int × Int × Bool:=if L=0 then (0,0,false) else lg g L s s.size 0 0 (0,0,false)
def tup3 (r:Int × Int × Bool):Value:=.tuple #[.int .i64 r.1,.int .i64 r.2.1,.bool r.2.2]
end Go.Ew
namespace Go.Proofs.Ytlgpleiobieniaa
open Go.Ev Go.Ew Go.Deep
namespace Va
variable (ok : EnvOk (env Try.prog))
include ok
theorem c16 {a:OA} {n c:Nat} {s:ByteArray} {H:KH} {g:Nat->Int} {Q:PQ} (h:IC H a (n*257) g) (hs:s.size<4611686018427387904) (hQ:Q (tup3 (lgR g n s)) H):Does (env Try.prog) 16 [.slice a n c,.string s] H Q:=by
 refine fn16 ok ⟨fun hz=>?_,fun hz=>?_⟩
 .have hn:n=0:=by have:=of_decide_eq_true hz; omega
  subst hn
  exact hQ
 .have hn:n≠0:=by have:=of_decide_eq_false hz; omega
  have hR:lgR g n s=lg g n s s.size 0 0 (0,0,false):=by unfold lgR; rw [if_neg hn]
  obtain ⟨b,o,ha,hld⟩:=h.ld (j:=0) (by omega)
  refine ⟨fun n3 a4 n5 n6 s7 x8 x9 b10 x11 x12 x13 H14=>a4=a/\n5=n/\n6=c/\s7=s/\x12=(s.size:Int)/\H14=H/\∃ i p:Nat,x13=i/\x11=p/\n3=s.size-i/\i<=s.size/\p<n/\lg g n s (s.size-i) i p (x8,x9,b10)=lgR g n s,⟨s.size,rfl,rfl,rfl,rfl,rfl,rfl,0,0,rfl,rfl,rfl,by omega,by omega,hR.symm⟩,?_⟩
  rintro n3 a4 n5 n6 s7 x8 x9 b10 x11 x12 x13 H14 ⟨rfl,rfl,rfl,rfl,rfl,rfl,i,p,rfl,rfl,rfl,hi,hp,hl⟩
  refine ⟨fun hlt=>?_,fun hge=>?_⟩
  .have hlt:i<s7.size:=by have:=of_decide_eq_true hlt; omega
   obtain ⟨r1,r2⟩:=byteAt_rng s7 i
   have hf:s7.size-i=(s7.size-(i+1))+1:=by omega
   rw [hf] at hl
   simp only [lg] at hl
   have hsub:p*257+(byteAt s7 i).toNat<n5*257:=row_lt hp (by omega)
   obtain ⟨x,hx⟩:∃ x,x=g (p*257+(byteAt s7 i).toNat):=⟨_,rfl⟩
   rw [<- hx] at hl
   refine ⟨trivial,⟨by omega,by omega⟩,⟨by omega,by omega⟩,b,o,ha,rfl,⟨r1,r2⟩,rfl,x,?_,?_,?_⟩
   .have:=hld _ hsub
    rw [<- hx] at this
    simpa [Nat.add_assoc] using this
   .intro q
    rw [if_pos (of_decide_eq_true q)] at hl
    rw [<- hl] at hQ
    exact hQ
   .intro q
    have q:=of_decide_eq_false q
    rw [if_neg q] at hl
    refine ⟨fun q2=>?_,fun q2=>?_⟩
    .rw [if_pos (of_decide_eq_true q2)] at hl
     rw [<- hl] at hQ
     exact hQ
    .have q2:=of_decide_eq_false q2
     rw [if_neg q2] at hl
     have hxn:x.toNat<n5:=by omega
     have hsub2:x.toNat*257+256<n5*257:=row_lt hxn (by omega)
     have hw:IntKind.wrap .i64 ((i:Int)+1)=((i+1:Nat):Int):=by rw [wrap64 (by omega) (by omega)]; omega
     refine ⟨⟨by omega,by omega⟩,b,o,ha,rfl,g (x.toNat*257+256),?_,fun q3=>?_,fun q3=>?_⟩
     .have:=hld _ hsub2
      simpa [Nat.add_assoc] using this
     .rw [if_pos (show g (x.toNat*257+256)≠0 from of_decide_eq_true q3)] at hl
      exact ⟨s7.size-(i+1),by omega,rfl,rfl,rfl,rfl,rfl,rfl,i+1,x.toNat,hw,by omega,rfl,by omega,hxn,hl⟩
     .rw [if_neg (show ¬ (g (x.toNat*257+256)≠0) from of_decide_eq_false q3)] at hl
      exact ⟨s7.size-(i+1),by omega,rfl,rfl,rfl,rfl,rfl,rfl,i+1,x.toNat,hw,by omega,rfl,by omega,hxn,hl⟩
  .have hge:i=s7.size:=by have:=of_decide_eq_false hge; omega
   rw [hge,Nat.sub_self] at hl
   rw [<- hl] at hQ
   exact hQ
end Va
end Go.Proofs.Ytlgpleiobieniaa
namespace Go.Ew
open Go.Ev Go.Deep
theorem step_lt {S:List St} {c:Int} {K:List Nat}:∀ x∈stepM S c K,x<S.length:=(clM_spec (moveF_fit K [] (fit_nil _))).1.lt
theorem beg_lt {S:List St}:∀ x∈begM S,x<S.length:=(clM_spec (addS_fit (fit_nil _))).1.lt
structure KsOk (S:List St) (ts:List ByteArray):Prop where
 fst:∃ bs,ts[0]? = some (strB bs)/\Bits S.length bs (begM S)
 way:∀ t∈ts,(∃ bs,t=strB bs/\Bits S.length bs (begM S))\/∃ (b:Nat) (K:List Nat) (bs:List Int),t=strB bs/\Bits S.length bs (stepM S ((b:Nat):Int) K)
 nod:ts.Nodup
theorem KsOk.key {S:List St} {ts:List ByteArray} (h:KsOk S ts) {t:ByteArray} (ht:t∈ts):∃ bs K,t=strB bs/\Bits S.length bs K/\∀ x∈K,x<S.length:=by
 rcases h.way t ht with ⟨bs,h1,h2⟩ | ⟨b,K,bs,h1,h2⟩
 .exact ⟨bs,_,h1,h2,beg_lt⟩
 .exact ⟨bs,_,h1,h2,step_lt⟩
theorem KsOk.one {S:List St} {bs:List Int} (h:Bits S.length bs (begM S)):KsOk S [strB bs]:=⟨⟨bs,rfl,h⟩,fun t ht=>.inl ⟨bs,by simpa using ht,h⟩,by simp⟩
theorem KsOk.step {S:List St} {ts ts':List ByteArray} {K:List Nat} {f:Nat->Int} (h:KsOk S ts) (hr:RowC S K ts ts' f 256):KsOk S ts':=by
 obtain ⟨r,hr1,_⟩:=hr.pre
 obtain ⟨bs,h1,h2⟩:=h.fst
 refine ⟨⟨bs,?_,h2⟩,fun t ht=>?_,hr.nod h.nod⟩
 .have:0<ts.length:=by
   rcases Nat.eq_zero_or_pos ts.length with z | z
   .rw [List.eq_nil_of_length_eq_zero z] at h1; cases h1
   .exact z
  rw [hr1,List.getElem?_append_left this]; exact h1
 .rcases hr.new t ht with z | ⟨b,bs',z1,z2⟩
  .exact h.way t z
  .exact .inr ⟨b,K,bs',z1,z2⟩
def mxG (N:Nat) (g:Nat->Int):Nat->Int
 | 0=>0
 | i+1=>mxF (fun b=>g (i*257+b)) N (mxG N g i)
theorem mxG_succ (N:Nat) (g:Nat->Int) (i:Nat):mxG N g (i+1)=mxF (fun b=>g (i*257+b)) N (mxG N g i):=rfl
theorem mxG_congr {N:Nat} {f g:Nat->Int} (hN:N<=257) (n:Nat) (h:∀ j,j<n*257->f j=g j):mxG N f n=mxG N g n:=by
 induction n with
 | zero=>rfl
 | succ n ih =>
   rw [mxG_succ,mxG_succ,ih fun j hj=>h j (Nat.lt_of_lt_of_le hj (Nat.mul_le_mul_right _ (Nat.le_succ n)))]
   exact mxF_congr fun b hb=>h _ (by
    have:(n+1)*257=n*257+257:=Nat.succ_mul n 257
    omega)
structure RowsC (S:List St) (ts:List ByteArray) (g:Nat->Int) (n:Nat):Prop where
 good:∀ (i:Nat) (K:List Nat) (bs:List Int),i<n->ts[i]? = some (strB bs)->Bits S.length bs K->(∀ x∈K,x<S.length)->g (i*257+256)=endM S K/\∀ b,b<256->GoodN S ts (g (i*257+b)) (stepM S ((b:Nat):Int) K)
 up:mxG 256 g n=(ts.length:Int)-1
 ups:∀ i b,i<n->b<256->g (i*257+b)<=mxF (fun b=>g (i*257+b)) b (mxG 256 g i)+1
 ord:∀ i,i<n->(i:Int)<=mxG 256 g i
def catG (g f:Nat->Int) (m:Nat):Nat->Int:=fun j=>if j<m then g j else f (j-m)
theorem RowsC.step {S:List St} {ts ts':List ByteArray} {g f:Nat->Int} {n:Nat} {K:List Nat} {bs:List Int} (h:RowsC S ts g n) (hn:ts[n]? = some (strB bs)) (hb:Bits S.length bs K) (hK:∀ x∈K,x<S.length) (hr:RowC S K ts ts' f 256):RowsC S ts' (catG g f (n*257)) (n+1):=by
 obtain ⟨r,hr1,_⟩:=hr.pre
 have hnl:n<ts.length:=by
  rcases Nat.lt_or_ge n ts.length with z | z
  .exact z
  .rw [List.getElem?_eq_none z] at hn; cases hn
 have hlo:∀ j,j<n*257->catG g f (n*257) j=g j:=fun j hj=>by unfold catG; rw [if_pos hj]
 have hhi:∀ b,catG g f (n*257) (n*257+b)=f b:=fun b=>by unfold catG; rw [if_neg (by omega)]; congr 1; omega
 have hlt:∀ i b,i<n->b<257->i*257+b<n*257:=fun i b h1 h2=>by
  have:(i+1)*257<=n*257:=Nat.mul_le_mul_right _ h1
  omega
 have hmx:∀ i,i<=n->mxG 256 (catG g f (n*257)) i=mxG 256 g i:=fun i hi=>mxG_congr (by omega) i fun j hj=>hlo j (Nat.lt_of_lt_of_le hj (Nat.mul_le_mul_right _ hi))
 refine ⟨fun i K' bs' hi h1 h2 h3=>?_,?_,fun i b hi hb'=>?_,fun i hi=>?_⟩
 .by_cases e:i=n
  .subst e
   rw [hr1,List.getElem?_append_left hnl,hn] at h1
   have e1:bs=bs':=strB_inj hb.rng h2.rng (Option.some.inj h1)
   subst e1
   have hs:SameS K K':=hb.same h2 hK h3
   refine ⟨by rw [hhi,hr.fin]; exact endM_same hs,fun b hb'=>?_⟩
   rw [hhi]
   exact (hr.good b hb').same (stepM_same hs)
  .have hi:i<n:=by omega
   rw [hr1,List.getElem?_append_left (by omega)] at h1
   obtain ⟨q1,q2⟩:=h.good i K' bs' hi h1 h2 h3
   refine ⟨by rw [hlo _ (hlt i 256 hi (by omega))]; exact q1,fun b hb'=>?_⟩
   rw [hlo _ (hlt i b hi (by omega)),hr1]
   exact (q2 b hb').app
 .rw [mxG_succ,hmx n (by omega),h.up,mxF_congr (g:=f) fun b hb'=>hhi b]
  exact hr.up
 .by_cases e:i=n
  .subst e
   rw [hhi,hmx i (by omega),h.up,mxF_congr (g:=f) fun k hk=>hhi k]
   exact hr.ups b hb'
  .have hi:i<n:=by omega
   rw [hlo _ (hlt i b hi (by omega)),hmx i (by omega),mxF_congr (g:=fun b=>g (i*257+b)) fun k hk=>hlo _ (hlt i k hi (by omega))]
   exact h.ups i b hi hb'
 .rw [hmx i (by omega)]
  by_cases e:i=n
  .subst e; rw [h.up]; omega
  .exact h.ord i (by omega)
theorem RowsC.rows {S:List St} {ts:List ByteArray} {g:Nat->Int} (h:RowsC S ts g ts.length) (hk:KsOk S ts):∃ keys:List (List Nat),keys.length=ts.length/\RowsOk S keys g:=by
 have hex:∀ l:List ByteArray,(∀ t∈l,t∈ts)->∃ keys:List (List Nat),keys.length=l.length/\∀ (i:Nat) (K:List Nat),keys[i]? = some K->∃ bs,l[i]? = some (strB bs)/\Bits S.length bs K/\∀ x∈K,x<S.length:=by
  intro l
  induction l with
  | nil=>intro _; exact ⟨[],rfl,fun i K h=>by simp at h⟩
  | cons t l ih =>
    intro hl
    obtain ⟨keys,h1,h2⟩:=ih fun u hu=>hl u (by simp [hu])
    obtain ⟨bs,K,q1,q2,q3⟩:=hk.key (hl t (by simp))
    refine ⟨K :: keys,by simp [h1],fun i K' hi=>?_⟩
    cases i with
    | zero =>
      have hi:K=K':=by simpa using hi
      subst hi
      exact ⟨bs,by simp [q1],q2,q3⟩
    | succ i=>simpa using h2 i K' (by simpa using hi)
 obtain ⟨keys,h1,h2⟩:=hex ts fun t ht=>ht
 have hpos:0<ts.length:=by
  obtain ⟨bs,q,_⟩:=hk.fst
  rcases Nat.eq_zero_or_pos ts.length with z | z
  .rw [List.eq_nil_of_length_eq_zero z] at q; cases q
  .exact z
 have hlt:∀ (k:Nat) (K:List Nat),keys[k]? = some K->k<ts.length:=fun k K q=>by
  rcases Nat.lt_or_ge k keys.length with z | z
  .omega
  .rw [List.getElem?_eq_none z] at q; cases q
 refine ⟨keys,h1,by omega,fun K hK=>?_,fun k K hK=>?_,fun k K c hK hc hz=>?_,fun k K c hK hc hz=>?_⟩
 .obtain ⟨bs,q1,q2,q3⟩:=h2 0 K hK
  obtain ⟨bs',p1,p2⟩:=hk.fst
  rw [p1] at q1
  have:=strB_inj p2.rng q2.rng (Option.some.inj q1)
  subst this
  exact q2.same p2 q3 beg_lt
 .obtain ⟨bs,q1,q2,q3⟩:=h2 k K hK
  exact (h.good k K bs (hlt k K hK) q1 q2 q3).1
 .obtain ⟨bs,q1,q2,q3⟩:=h2 k K hK
  rcases (h.good k K bs (hlt k K hK) q1 q2 q3).2 c hc with ⟨_,z⟩ | ⟨z,_⟩
  .rw [z]; omega
  .exact absurd hz z
 .obtain ⟨bs,q1,q2,q3⟩:=h2 k K hK
  rcases (h.good k K bs (hlt k K hK) q1 q2 q3).2 c hc with ⟨z,_⟩ | ⟨_,k',bs',z1,z2,z3⟩
  .exact absurd z hz
  .have hk':k'<ts.length:=by
    rcases Nat.lt_or_ge k' ts.length with z | z
    .exact z
    .rw [List.getElem?_eq_none z] at z2; cases z2
   have e:keys[k']? = some keys[k']:=by simp [h1,hk']
   obtain ⟨bs2,p1,p2,p3⟩:=h2 k' _ e
   rw [z2] at p1
   have:=strB_inj z3.rng p2.rng (Option.some.inj p1)
   subst this
   exact ⟨k',keys[k'],z1,e,p2.same z3 p3 step_lt⟩
abbrev RT:TI:=⟨257,2056,true,3,0,0,[(0,256),(256,1)],List.replicate 257 (.int .i64 0)⟩
theorem Gr.ic {H:KH} {sz n c N:Nat} {a:OA} {g:Nat->Int} {ex:List Value} (h:Gr H sz a n c (intsR .i64 N g) ex):IC H a N g:=by
 cases hn:N with
 | zero=>exact .inl rfl
 | succ m =>
   rw [<- hn]
   generalize hcs:intsR .i64 N g=cs at h
   cases h with
   | nil=>have:=congrArg List.length hcs; rw [intsR_len] at this; simp at this; omega
   | on b _ e _ _ h1 h2 h3 h4 h5 h6 =>
     refine .inr ⟨b,0,e,rfl,h1,fun j hj=>?_⟩
     have hl:N=cs.length:=by rw [<- hcs,intsR_len]
     refine rd_get h4 j _ ?_
     rw [List.getElem?_append_left (by omega),<- hcs,intsR_get,if_pos hj]
end Go.Ew
namespace Go.Proofs.Ytlgpleiobieniaa
open Go.Ev Go.Ew
namespace Va
section
variable (ok : EnvOk (env Try.prog))
include ok
theorem c24 {H:KH} {S:List St} {a:OA} {c:Nat} {Q:PQ}
 (hst:SsN H S a) (hby:ByteS S) (h0:0<S.length) (hS:S.length<=900000) (hfl:∀ x,(stAt S x).free.length<=1000000)
 (hq:∀ w tf BB H' bs,KIn BB H' w S a c tf [strB bs]->Bits S.length bs (begM S)->Le H H'->(∀ b∈BB,H b=none)->(∀ i,i<256->(tf i=true↔TurnP S i))->Q (.pointer (some ⟨w,0,none⟩)) H') :
 Does (env Try.prog) 24 [.slice a S.length c] H Q:=by
 refine fn24 ok (c41 ok hst hby hS fun f H2 hle2 hf=>⟨f,rfl,fn42 ok fun n6 h6=>⟨n6,none,0,0,rfl,fun n10 h10=>?_⟩⟩)
 have l6:=Le.new (e:=mpE []) h6
 have l10:=Le.new (e:=mkEnt (Array.toList (List.toArray ([Value.slice a S.length c]++boolsR 256 f++[Value.map (some n6),Value.slice none 0 0]))) 0) h10
 have hne:n10≠n6:=fun z=>by subst z; simp [KH.new] at h10
 refine c43 ok hS fun B H12 p hd hle12 hBf=>⟨p,0,rfl,?_⟩
 refine c44 ok hd hS fun B' H16 hd' hfr=>⟨rfl,?_⟩
 have hkI:KIn [n10,n6] ((H2.new n6 (mpE [])).new n10 (mkEnt (Array.toList (List.toArray ([Value.slice a S.length c]++boolsR 256 f++[Value.map (some n6),Value.slice none 0 0]))) 0)) n10 S a c f []:=by
  refine ⟨n6,none,0,[],⟨⟨_,if_pos rfl,rfl,?_⟩,l10 n6 _ (if_pos rfl),.nil,hne,(fun z=>by cases z),fun z=>by cases z⟩,rfl⟩
  have:=rd_mk ([Value.slice a S.length c]++boolsR 256 f++[Value.map (some n6),Value.slice none 0 0]) 0
  have hl:([Value.slice a S.length c]++boolsR 256 f++[Value.map (some n6),Value.slice none 0 0]).length=259:=by simp [boolsR_len]
  rw [hl] at this
  simpa using this
 have hk12:=hkI.up hle12
 have hBn:∀ b∈[n10,n6],b∉B':=fun b hb hb'=>by
  obtain ⟨e,he⟩:=hk12.known b hb
  obtain ⟨e',he'⟩:=hkI.known b hb
  rcases hfr.nw b hb' with z | z
  .rw [hBf b z] at he'; cases he'
  .rw [z] at he; cases he
 have hkp:∀ k e,H k=some e->H16 k=some e:=fun k e q=>by
  have q6:=l10 k e (l6 k e (hle2 k e q))
  exact hfr.kp k e (hle12 k e q6) fun hb=>by rw [hBf k hb] at q6; cases q6
 have hBH:∀ b∈B',H b=none:=fun b hb=>by
  rcases hfr.nw b hb with z | z
  .exact hle2.none (l6.none (l10.none (hBf b z)))
  .exact hle2.none (l6.none (l10.none (hle12.none z)))
 have hk16:KIn [n10,n6] H16 n10 S a c f []:=hk12.agree fun k e z1 z2=>hfr.kp k e z2 fun hb=>by
  obtain ⟨e',he'⟩:=hkI.known k z1
  rw [hBf k hb] at he'; cases he'
 have hm:addS S.length [] 0≠[]:=by
  unfold addS
  rw [if_neg (by omega),if_neg (by omega),if_neg (by simp)]
  simp
 refine c45 ok hst hkp hk16 hd' (fun b z1 z2=>hBn b z2 z1) hBH hS hfl (by simp) (fun z=>absurd z hm) fun _ bs k ts' BB' H18 q1 q1b q2 q3 q4 q5=>⟨_,rfl,?_⟩
 have hfin:∀ b∈BB',H b=none:=fun b hb=>by
  rcases q4 b hb with z | z | z
  .have hn:∀ b∈[n10,n6],H b=none:=fun b hb=>by
    rcases List.mem_cons.1 hb with y | hb
    .rw [y]; exact hle2.none (l6.none h10)
    .have:b=n6:=by simpa using hb
     rw [this]; exact hle2.none h6
   exact hn b z
  .exact hBH b z
  .rcases none_or H b with y | ⟨e,y⟩
   .exact y
   .rw [hkp b e y] at z; cases z
 have hle18:Le H H18:=fun k e q=>q3 k e (hkp k e q) (fun hb=>by
  rcases List.mem_cons.1 hb with y | hb
  .subst y; rw [hle2.none (l6.none h10)] at q; cases q
  .have:k=n6:=by simpa using hb
   subst this; rw [hle2.none h6] at q; cases q) fun hb=>by rw [hBH k hb] at q; cases q
 rcases q5 with ⟨_,z⟩ | ⟨rfl,_,_⟩
 .simp at z
 .exact hq n10 f BB' H18 bs q2 q1 hle18 hfin hf
theorem c14 {H:KH} {S:List St} {a:OA} {c:Nat} {Q:PQ}
 (hst:SsN H S a) (hby:ByteS S) (h0:0<S.length) (hS:S.length<=900000) (hfl:∀ x,(stAt S x).free.length<=1000000)
 (hq:∀ ra rc ts g H',Le H H'->IC H' ra (ts.length*257) g->KsOk S ts->RowsC S ts g ts.length->ts.length<=300->Q (.slice ra ts.length rc) H')
 (hmany:∀ ts H',Le H H'->KsOk S ts->300<ts.length->Q (.slice none 0 0) H') :
 Does (env Try.prog) 14 [.slice a S.length c] H Q:=by
 refine fn14 ok ⟨fun hz=>?_,fun hz=>?_⟩
 .exfalso
  have:=of_decide_eq_true hz
  omega
 refine c24 ok hst hby h0 hS hfl fun w tf BB H2 bs hkI hbits hle2 hBf htf=>⟨w,0,rfl,?_⟩
 unfold vc14_L1
 refine ⟨fun n3 n4 n5 a6 n7 n8 x9 H10=>n4=w/\n5=0/\∃ (at_:Nat) (g:Nat->Int) (ts:List ByteArray) (BB:List Nat) (ex:List Value),n7=at_/\x9=at_/\n3=301-at_/\at_<=ts.length/\ts.length<=300/\KIn BB H10 w S a c tf ts/\Le H H10/\(∀ b∈BB,H b=none)/\Gr H10 257 a6 at_ n8 (intsR .i64 (at_*257) g) ex/\(∀ b,blk a6=some b->H b=none/\b∉BB)/\KsOk S ts/\RowsC S ts g at_,
  ⟨301,rfl,rfl,rfl,0,fun _=>0,[strB bs],BB,[],rfl,rfl,rfl,by simp,by simp,hkI,hle2,hBf,.nil,(fun b q=>by cases q),KsOk.one hbits,⟨fun i K bs' hi=>by omega,by simp [mxG],fun i b hi=>by omega,fun i hi=>by omega⟩⟩,?_⟩
 rintro n3 n4 n5 a6 n7 n8 x9 H10 ⟨rfl,rfl,i,g,ts,BB,ex,rfl,rfl,rfl,hi,hts,hkI,hle,hBf,hrows,hra,hks,hC⟩
 obtain ⟨mp,ka,kc,kex,hs,hBe⟩:=hkI
 have hkI:KIn BB H10 n4 S a c tf ts:=⟨mp,ka,kc,kex,hs,hBe⟩
 refine ⟨rfl,rfl,ka,_,kc,hs.c258,fun hlt=>?_,fun hge=>?_⟩
 .have hlt:n7<ts.length:=by have:=of_decide_eq_true hlt; omega
  have e0:Int.toNat ((n7:Nat):Int)=n7:=by omega
  have hti:ts[n7]? = some ts[n7]:=by simp [hlt]
  obtain ⟨b1,o1,z1,r1⟩:=rowAddr hs.row.row (by omega)
  have g1:=r1 (n7*1) 1 (by omega)
  rw [keyC_at hti] at g1
  obtain ⟨bs1,K,k1,k2,k3⟩:=hks.key (List.getElem_mem hlt)
  rw [k1] at g1 hti
  refine ⟨rfl,rfl,ka,_,kc,hs.c258,⟨by omega,by omega⟩,b1,o1,z1,_,by rw [e0]; exact g1,?_⟩
  refine c25 ok hst hle hBf hkI htf hby k2 k3 hS hfl (by omega) fun f ts' BB' H8 hk8 hfr8 hC8=>⟨f,rfl,fun n10 h10 n11 h11=>?_⟩
  have l10:=Le.new (e:=mkEnt (intsR .i64 257 f) 0) h10
  have hraB:∀ b,blk a6=some b->b∉BB':=fun b q hb=>by
   rcases hfr8.nw b hb with z | z
   .exact (hra b q).2 z
   .obtain ⟨e,he⟩:=hrows.at' q
    rw [he] at z; cases z
  have hrow8:Gr (H8.new n10 (mkEnt (intsR .i64 257 f) 0)) 257 a6 n7 n8 (intsR .i64 (n7*257) g) ex:=hrows.agree fun k e q1 q2=>l10 k e (hfr8.kp k e q2 (hra k q1).2)
  obtain ⟨a',H',ex',f1,f2,_,f4,f5⟩:=hrow8.append (ti:=RT) (new:=intsR .i64 257 f) h11 (intsR_len _ _ _) (by omega) (by decide) (by decide)
  have hcat:intsR .i64 (n7*257) g++intsR .i64 257 f=intsR .i64 ((n7+1)*257) (catG g f (n7*257)):=by
   rw [intsR_app,Nat.succ_mul]; rfl
  rw [hcat] at f2
  have hk8':∀ k e,k∈BB'->H8 k=some e->H' k=some e:=fun k e q1 q2=>f4 k e (l10 k e q2) fun q=>hraB k q q1
  have hkI':KIn BB' H' n4 S a c tf ts':=hk8.agree hk8'
  obtain ⟨mp',ka',kc',kex',hs',hBe'⟩:=hkI'
  have hkI':KIn BB' H' n4 S a c tf ts':=⟨mp',ka',kc',kex',hs',hBe'⟩
  have hle':Le H H':=fun k e q=>f4 k e (l10 k e (hfr8.kp k e (hle k e q) fun hb=>by rw [hBf k hb] at q; cases q)) fun z=>by rw [(hra k z).1] at q; cases q
  have hks':=hks.step hC8
  have hC':=hC.step hti k2 k3 hC8
  obtain ⟨r,hr1,hr2⟩:=hC8.pre
  have hlen:ts'.length=ts.length+r.length:=by rw [hr1]; simp
  refine ⟨1,_,knew_of (lit_kold (if_pos rfl) (by rw [intsR_len]; rfl)),a',_,unkU,H',f1,rfl,rfl,ka',_,kc',hs'.c258,fun h300=>?_,fun h300=>?_⟩
  .exact hmany ts' H' hle' hks' (by have:=of_decide_eq_true h300; omega)
  .have h300:ts'.length<=300:=by have:=of_decide_eq_false h300; omega
   have h11':H8 n11=none:=l10.none h11
   have hnH:∀ b,H8 b=none->H b=none:=fun b q=>by
    rcases none_or H b with y | ⟨e,y⟩
    .exact y
    .rw [hfr8.kp b e (hle b e y) fun hb=>by rw [hBf b hb] at y; cases y] at q; cases q
   refine ⟨301-(n7+1),by omega,rfl,rfl,rfl,n7+1,_,ts',BB',ex',rfl,by rw [wrap64 (by omega) (by omega)]; omega,rfl,by omega,h300,hkI',hle',fun b hb=>?_,f2,fun b q=>?_,hks',hC'⟩
   .rcases hfr8.nw b hb with z | z
    .exact hBf b z
    .exact hle.none z
   .rcases f5 b q with z | z
    .exact ⟨(hra b z).1,hraB b z⟩
    .subst z
     refine ⟨hnH _ h11',fun hb=>?_⟩
     obtain ⟨e,he⟩:=hk8.known b hb
     rw [he] at h11'; cases h11'
 .have hge:n7=ts.length:=by have:=of_decide_eq_false hge; omega
  subst hge
  exact hq a6 n8 ts g H10 hle hrows.ic hks hC hts
end
end Va
end Go.Proofs.Ytlgpleiobieniaa
set_option maxRecDepth 100000
namespace Go.Proofs.Ytlgpleiobieniaa
open Go.Ev Go.Ew
namespace Va
end Va
end Go.Proofs.Ytlgpleiobieniaa
namespace Go.Ew
open Go.Ev Go.Deep
def TkC:List ByteArray->List Value->Prop
 | [],cs=>cs=[]
 | s :: r,cs=>∃ nm b ds,cs = .string nm :: .string s :: .bool b :: ds/\TkC r ds
def TkR (H:KH) (rs:List ByteArray) (a:OA):Prop:=∃ cs,kold H 3 a rs.length=some cs/\TkC rs cs
end Go.Ew
namespace Go.Proofs.Ytlgpleiobieniaa
open Go.Ev Go.Ew
namespace Va
section
variable (ok : EnvOk (env Try.prog))
include ok
abbrev PT1:TI:=⟨1,24,false,1,59,0,[],[.slice none 0 0]⟩
end
end Va
end Go.Proofs.Ytlgpleiobieniaa
namespace Go.Proofs.Ytlgpleiobieniaa
open Go.Ev Go.Ew
namespace Va
end Va
end Go.Proofs.Ytlgpleiobieniaa
namespace Go.Ew
open Go.Ev Go.Deep
theorem bld_free:∀ (t:Ptn) (nx n:Nat),t.fit->∀ s∈(bld t nx n).1,s.free.length<=100
 | .cls L,nx,n,hf,s,h=>by
   have hf:L.length<=24:=hf
   simp only [bld] at h
   split at h
   .obtain ⟨r,_,rfl⟩:=List.mem_map.1 h; simp [clsS5]
   .rcases List.mem_append.1 h with h | h
    .obtain ⟨r,_,rfl⟩:=List.mem_map.1 h; simp [clsS5]
    .have:=List.mem_singleton.1 h; rw [this]; simp [forkS]; omega
 | .join a b,nx,n,hf,s,h=>by
   simp only [bld] at h
   rcases List.mem_append.1 h with h | h
   .exact bld_free b _ _ hf.2 s h
   .exact bld_free a _ _ hf.1 s h
 | .alt a b,nx,n,hf,s,h=>by
   simp only [bld] at h
   rcases List.mem_append.1 h with h | h
   .rcases List.mem_append.1 h with h | h
    .exact bld_free a _ _ hf.1 s h
    .exact bld_free b _ _ hf.2 s h
   .have:=List.mem_singleton.1 h; rw [this]; simp [forkS]
 | .star a,nx,n,hf,s,h=>by
   simp only [bld] at h
   rcases List.mem_cons.1 h with h | h
   .rw [h]; simp [forkS]
   .exact bld_free a _ _ hf s h
 | .plus a,nx,n,hf,s,h=>by
   simp only [bld] at h
   rcases List.mem_cons.1 h with h | h
   .rw [h]; simp [forkS]
   .exact bld_free a _ _ hf s h
 | .may a,nx,n,hf,s,h=>by
   simp only [bld] at h
   rcases List.mem_append.1 h with h | h
   .exact bld_free a _ _ hf s h
   .have:=List.mem_singleton.1 h; rw [this]; simp [forkS]
theorem ofM_small:∀ (ts:List (List It)) (k:Nat) (f:List Int) (tl:List St),(∀ l∈ts,GoodP l)->(∀ s∈tl,s.free.length<=100)->(ofM ts k f tl).1.length=f.length+ts.length/\(ofM ts k f tl).2.length<=tl.length+1300*ts.length/\∀ s∈(ofM ts k f tl).2,s.free.length<=100
 | [],k,f,tl,hg,h=>⟨by simp [ofM],by simp [ofM],h⟩
 | l :: ts,k,f,tl,hg,h=>by
   have hgl:=hg l (by simp)
   have hfit:(treeD l).fit:=fit_of _ (by rw [hgl.it]; exact hgl.rg)
   have hbl:=bld_len (treeD l) (tl.length+1) (tl.length+2) hfit
   have hit:(treeD l).items.length<=47:=by rw [hgl.it]; exact hgl.ln
   obtain ⟨h1,h2,h3⟩:=ofM_small ts (k+1) (f++[((bld (treeD l) (tl.length+1) (tl.length+2)).2:Int)]) (tl++endS k :: (bld (treeD l) (tl.length+1) (tl.length+2)).1) (fun l' hl'=>hg l' (by simp [hl'])) (fun s hs=>by
    rcases List.mem_append.1 hs with q | q
    .exact h s q
    .rcases List.mem_cons.1 q with q | q
     .rw [q]; simp [endS]
     .exact bld_free _ _ _ hfit s q)
   rw [ofM]
   refine ⟨by rw [h1]; simp; omega,?_,h3⟩
   simp only [List.length_append,List.length_cons] at h2 ⊢
   omega
theorem nfaM_small {pats:List (List It)} (hg:∀ l∈pats,GoodP l) (hp:pats.length<=50):(nfaM pats).length<=900000/\∀ x,(stAt (nfaM pats) x).free.length<=1000000:=by
 obtain ⟨h1,h2,h3⟩:=ofM_small pats 0 [] [] hg (fun s hs=>by cases hs)
 refine ⟨?_,fun x=>?_⟩
 .unfold nfaM; simp only [List.length_cons,List.length_nil] at h2 ⊢; omega
 .unfold stAt
  cases hx:(nfaM pats)[x]? with
  | none=>simp [st0]
  | some s =>
    have hm:=List.mem_of_getElem? hx
    unfold nfaM at hm
    rcases List.mem_cons.1 hm with q | q
    .rw [q]; simp only [Option.getD_some,forkS,h1]; simp; omega
    .have:=h3 s q
     simp only [Option.getD_some]; omega
theorem good_of {pats:List (List It)} (h:∀ l∈pats,∃ s,parseR s=some l):(∀ l∈pats,GoodP l)/\(∀ l∈pats,said (treeD l).text l=true)/\∀ l∈pats,(treeD l).okT:=by
 refine ⟨fun l hl=>?_,fun l hl=>?_,fun l hl=>?_⟩
 .obtain ⟨s,hs⟩:=h l hl; exact parse_good hs
 .obtain ⟨s,hs⟩:=h l hl; exact parse_said hs
 .obtain ⟨s,hs⟩:=h l hl
  have hg:=parse_good hs
  exact okT_of _ (by rw [hg.it]; exact hg.ok)
end Go.Ew
namespace Go.Proofs.Ytlgpleiobieniaa
open Go.Ev Go.Ew
namespace Va
section
variable (ok : EnvOk (env Try.prog))
include ok
theorem c11p {pats:List (List It)} {a:OA} {c:Nat} {H:KH} {Q:PQ} (hp:PtR H pats a) (hpar:∀ l∈pats,∃ s,parseR s=some l) (hs:pats.length<=50)
 (hq:∀ a' c' H',Le H H'->SsN H' (nfaM pats) a'->Q (.slice a' (nfaM pats).length c') H'):Does (env Try.prog) 15 [.slice a pats.length c] H Q:=by
 obtain ⟨g1,g2,g3⟩:=good_of hpar
 exact c15 ok hp g1 hs (fun ⟨l,h1,h2⟩=>by rw [g2 l h1] at h2; cases h2) fun _ a' c' H' hl hst=>hq a' c' H' hl hst
end
end Va
end Go.Proofs.Ytlgpleiobieniaa
namespace Go.Ew
open Go.Ev Go.Deep
def clsN:List It->Nat
 | []=>0
 | i :: l=>(if i.1=1 then 1 else 0)+clsN l
theorem clsN_app:∀ a b:List It,clsN (a++b)=clsN a+clsN b
 | [],b=>by simp [clsN]
 | i :: a,b=>by
   simp only [List.cons_append,clsN,clsN_app a b]
   omega
def clsAll:List (List It)->Nat
 | []=>0
 | l :: r=>clsN l+clsAll r
structure StN (Z:List Int) (M:Int) (s:St):Prop where
 lo:0<=s.lo/\s.lo<=255
 hi:0<=s.hi/\s.hi<=255
 nx:s.next = -1\/s.next∈Z
 e:0<=s.e/\s.e<=M
theorem StN.mono {Z Z':List Int} {M M':Int} {s:St} (h:StN Z M s) (hz:∀ x∈Z,x∈Z') (hm:M<=M'):StN Z' M' s:=⟨h.lo,h.hi,h.nx.imp id (hz _),h.e.1,by have:=h.e.2; omega⟩
theorem fork_ok (f:List Int) (Z:List Int) {M:Int} (hM:0<=M):StN Z M (forkS f):=⟨⟨by simp [forkS],by simp [forkS]⟩,⟨by simp [forkS],by simp [forkS]⟩,.inl rfl,⟨by simp [forkS],by simpa [forkS] using hM⟩⟩
theorem cls_ok {r:Rg} (h:okRg r) (nx:Nat):StN [(nx:Int)] 0 (clsS5 nx r):=by
 obtain ⟨h1,h2,h3⟩:=h
 exact ⟨⟨by simp only [clsS5]; omega,by simp only [clsS5]; omega⟩,⟨by simp only [clsS5]; omega,by simp only [clsS5]; omega⟩,.inr (by simp [clsS5]),⟨by simp [clsS5],by simp [clsS5]⟩⟩
theorem bld_ok:∀ (t:Ptn) (nx n:Nat),t.okT->∃ Z:List Int,Z.length<=clsN t.items/\∀ s∈(bld t nx n).1,StN Z 0 s
 | .cls L,nx,n,h=>by
   refine ⟨[(nx:Int)],by simp [Ptn.items,clsN],fun s hs=>?_⟩
   simp only [bld] at hs
   split at hs
   .obtain ⟨r,hr,rfl⟩:=List.mem_map.1 hs; exact cls_ok (h.2 r hr) nx
   .rcases List.mem_append.1 hs with hs | hs
    .obtain ⟨r,hr,rfl⟩:=List.mem_map.1 hs; exact cls_ok (h.2 r hr) nx
    .rw [List.mem_singleton.1 hs]; exact fork_ok _ _ (Int.le_refl _)
 | .join a b,nx,n,h=>by
   obtain ⟨Z1,z1,z2⟩:=bld_ok b nx n h.2
   obtain ⟨Z2,z3,z4⟩:=bld_ok a (bld b nx n).2 (n+(bld b nx n).1.length) h.1
   refine ⟨Z1++Z2,by simp only [Ptn.items,clsN_app,List.length_append]; omega,fun s hs=>?_⟩
   simp only [bld] at hs
   rcases List.mem_append.1 hs with hs | hs
   .exact (z2 s hs).mono (fun x hx=>List.mem_append_left _ hx) (Int.le_refl _)
   .exact (z4 s hs).mono (fun x hx=>List.mem_append_right _ hx) (Int.le_refl _)
 | .alt a b,nx,n,h=>by
   obtain ⟨Z1,z1,z2⟩:=bld_ok a nx n h.1
   obtain ⟨Z2,z3,z4⟩:=bld_ok b nx (n+(bld a nx n).1.length) h.2
   refine ⟨Z1++Z2,by simp only [Ptn.items,clsN_app,List.length_append]; omega,fun s hs=>?_⟩
   simp only [bld] at hs
   rcases List.mem_append.1 hs with hs | hs
   .rcases List.mem_append.1 hs with hs | hs
    .exact (z2 s hs).mono (fun x hx=>List.mem_append_left _ hx) (Int.le_refl _)
    .exact (z4 s hs).mono (fun x hx=>List.mem_append_right _ hx) (Int.le_refl _)
   .rw [List.mem_singleton.1 hs]; exact fork_ok _ _ (Int.le_refl _)
 | .star a,nx,n,h=>by
   obtain ⟨Z1,z1,z2⟩:=bld_ok a n (n+1) h
   refine ⟨Z1,by simp only [Ptn.items,clsN_app]; omega,fun s hs=>?_⟩
   simp only [bld] at hs
   rcases List.mem_cons.1 hs with hs | hs
   .rw [hs]; exact fork_ok _ _ (Int.le_refl _)
   .exact z2 s hs
 | .plus a,nx,n,h=>by
   obtain ⟨Z1,z1,z2⟩:=bld_ok a n (n+1) h
   refine ⟨Z1,by simp only [Ptn.items,clsN_app]; omega,fun s hs=>?_⟩
   simp only [bld] at hs
   rcases List.mem_cons.1 hs with hs | hs
   .rw [hs]; exact fork_ok _ _ (Int.le_refl _)
   .exact z2 s hs
 | .may a,nx,n,h=>by
   obtain ⟨Z1,z1,z2⟩:=bld_ok a nx n h
   refine ⟨Z1,by simp only [Ptn.items,clsN_app]; omega,fun s hs=>?_⟩
   simp only [bld] at hs
   rcases List.mem_append.1 hs with hs | hs
   .exact z2 s hs
   .rw [List.mem_singleton.1 hs]; exact fork_ok _ _ (Int.le_refl _)
theorem ofM_ok:∀ (ts:List (List It)) (k:Nat) (f:List Int) (tl:List St) (Z:List Int),(∀ l∈ts,(treeD l).okT/\(treeD l).items=l)->(∀ s∈tl,StN Z (k:Nat) s)->
 ∃ Z':List Int,Z'.length<=Z.length+clsAll ts/\∀ s∈(ofM ts k f tl).2,StN Z' ((k+ts.length:Nat):Int) s
 | [],k,f,tl,Z,hg,h=>⟨Z,by simp [clsAll],by simpa [ofM] using h⟩
 | l :: ts,k,f,tl,Z,hg,h=>by
   obtain ⟨hok,hit⟩:=hg l (by simp)
   obtain ⟨Z1,z1,z2⟩:=bld_ok (treeD l) (tl.length+1) (tl.length+2) hok
   rw [hit] at z1
   obtain ⟨Z',z3,z4⟩:=ofM_ok ts (k+1) (f++[((bld (treeD l) (tl.length+1) (tl.length+2)).2:Int)]) (tl++endS k :: (bld (treeD l) (tl.length+1) (tl.length+2)).1) (Z++Z1) (fun l' hl'=>hg l' (by simp [hl'])) (fun s hs=>by
    rcases List.mem_append.1 hs with q | q
    .exact (h s q).mono (fun x hx=>List.mem_append_left _ hx) (by omega)
    .rcases List.mem_cons.1 q with q | q
     .rw [q]; exact ⟨⟨by simp [endS],by simp [endS]⟩,⟨by simp [endS],by simp [endS]⟩,.inl rfl,⟨by simp only [endS]; omega,by simp only [endS]; omega⟩⟩
     .exact (z2 s q).mono (fun x hx=>List.mem_append_right _ hx) (by omega))
   refine ⟨Z',by simp only [clsAll,List.length_append] at z3 ⊢; omega,fun s hs=>?_⟩
   rw [ofM] at hs
   have:=z4 s hs
   rwa [show k+1+ts.length=k+(l :: ts).length by simp; omega] at this
theorem nfaM_ok {pats:List (List It)} (hpar:∀ l∈pats,∃ s,parseR s=some l):∃ Z:List Int,Z.length<=clsAll pats/\∀ s∈nfaM pats,StN Z (pats.length:Nat) s:=by
 obtain ⟨g1,g2,g3⟩:=good_of hpar
 obtain ⟨Z,z1,z2⟩:=ofM_ok pats 0 [] [] [] (fun l hl=>⟨g3 l hl,(g1 l hl).it⟩) (fun s hs=>by cases hs)
 refine ⟨Z,by simpa using z1,fun s hs=>?_⟩
 unfold nfaM at hs
 rcases List.mem_cons.1 hs with q | q
 .rw [q]; exact fork_ok _ _ (by omega)
 .simpa using z2 s q
theorem nfaM_byte {pats:List (List It)} (hpar:∀ l∈pats,∃ s,parseR s=some l):ByteS (nfaM pats):=by
 obtain ⟨Z,_,z⟩:=nfaM_ok hpar
 exact fun s hs=>⟨(z s hs).lo,(z s hs).hi⟩
def subs:List Nat->List (List Nat)
 | []=>[[]]
 | x :: l=>subs l++(subs l).map (x :: ·)
theorem subs_len:∀ l:List Nat,(subs l).length=2 ^ l.length
 | []=>rfl
 | x :: l=>by
   simp only [subs,List.length_append,List.length_map,subs_len l,List.length_cons,Nat.pow_succ]
   omega
theorem filter_subs (p:Nat->Bool):∀ l:List Nat,l.filter p∈subs l
 | []=>by simp [subs]
 | x :: l=>by
   have ih:=filter_subs p l
   simp only [subs,List.mem_append,List.mem_map]
   by_cases h:p x=true
   .rw [List.filter_cons_of_pos h]; exact .inr ⟨_,ih,rfl⟩
   .rw [List.filter_cons_of_neg h]; exact .inl ih
def once:List Nat->List Nat
 | []=>[]
 | x :: l=>if x∈once l then once l else x :: once l
theorem once_mem:∀ (l:List Nat) (y:Nat),y∈once l↔y∈l
 | [],y=>by simp [once]
 | x :: l,y=>by
   have ih:=once_mem l
   simp only [once]
   split
   .rename_i h
    rw [ih]
    constructor
    .exact fun z=>by simp [z]
    .intro z
     rcases List.mem_cons.1 z with z | z
     .rw [z]; exact (ih x).1 h
     .exact z
   .simp only [List.mem_cons,ih]
theorem once_nod:∀ l:List Nat,(once l).Nodup
 | []=>by simp [once]
 | x :: l=>by
   have ih:=once_nod l
   simp only [once]
   split
   .exact ih
   .rename_i h; exact List.nodup_cons.2 ⟨h,ih⟩
theorem once_len:∀ l:List Nat,(once l).length<=l.length
 | []=>by simp [once]
 | x :: l=>by
   have ih:=once_len l
   simp only [once]
   split<;>simp only [List.length_cons]<;>omega
theorem pigeon {α β:Type} {R:α->β->Prop} (hR:∀ t u m,R t m->R u m->t=u):∀ (l:List α) (A:List β),l.Nodup->(∀ t∈l,∃ m∈A,R t m)->l.length<=A.length
 | [],A,_,_=>by simp
 | t :: l,A,hn,h=>by
   obtain ⟨m,hm,hr⟩:=h t (by simp)
   obtain ⟨A1,A2,rfl⟩:=List.append_of_mem hm
   have hn:=List.nodup_cons.1 hn
   have:=pigeon hR l (A1++A2) hn.2 fun u hu=>by
    obtain ⟨m',hm',hr'⟩:=h u (by simp [hu])
    refine ⟨m',?_,hr'⟩
    rcases List.mem_append.1 hm' with z | z
    .exact List.mem_append_left _ z
    .rcases List.mem_cons.1 z with z | z
     .subst z
      exact absurd (by rw [hR t u m' hr hr']; exact hu) hn.1
     .exact List.mem_append_right _ z
   simp only [List.length_append,List.length_cons] at this ⊢
   omega
def SgR (S:List St) (t:ByteArray):Option (List Nat)->Prop
 | none=>∃ bs,t=strB bs/\Bits S.length bs (begM S)
 | some M=>∃ bs,t=strB bs/\Bits S.length bs (clM S M)
theorem few_rows {pats:List (List It)} (hpar:∀ l∈pats,∃ s,parseR s=some l) {ts:List ByteArray} (hk:KsOk (nfaM pats) ts) (h:300<ts.length):8<clsAll pats:=by
 obtain ⟨Z,z1,z2⟩:=nfaM_ok hpar
 generalize hS:nfaM pats=S at *
 rcases Nat.lt_or_ge 8 (clsAll pats) with q | q
 .exact q
 exfalso
 let NX:=once (Z.map Int.toNat)
 have hNX:NX.length<=8:=by
  have:=once_len (Z.map Int.toNat)
  rw [List.length_map] at this
  show (once (Z.map Int.toNat)).length<=8
  omega
 have:=pigeon (R:=SgR S) (fun t u m h1 h2=>by
  cases m with
  | none =>
    obtain ⟨bs,rfl,h1⟩:=h1
    obtain ⟨cs,rfl,h2⟩:=h2
    rw [h1.ext h2 fun x=>Iff.rfl]
  | some M =>
    obtain ⟨bs,rfl,h1⟩:=h1
    obtain ⟨cs,rfl,h2⟩:=h2
    rw [h1.ext h2 fun x=>Iff.rfl]) ts (none :: (subs NX).map some) hk.nod fun t ht=>by
  rcases hk.way t ht with ⟨bs,h1,h2⟩ | ⟨b,K,bs,h1,h2⟩
  .exact ⟨none,by simp,bs,h1,h2⟩
  .have hsub:∀ y∈K.foldl (moveM S ((b:Nat):Int)) [],y∈NX/\y<S.length:=fun y hy=>by
    rcases (moveF_mem K [] y).1 hy with z | ⟨⟨x,x1,x2,x3,x4⟩,x5⟩ | z
    .cases z
    .refine ⟨(once_mem _ _).2 (List.mem_map.2 ⟨(y:Int),?_,by omega⟩),x5⟩
     by_cases hx:x<S.length
     .rcases (z2 _ (stAt_mem hx)).nx with w | w
      .rw [x4] at w; omega
      .rw [<- x4]; exact w
     .have:stAt S x=st0:=by unfold stAt; rw [List.getElem?_eq_none (by omega)]; rfl
      rw [this] at x4
      simp [st0] at x4
    .cases z
   refine ⟨some (NX.filter fun y=>decide (y∈K.foldl (moveM S ((b:Nat):Int)) [])),List.mem_cons_of_mem _ (List.mem_map.2 ⟨_,filter_subs _ _,rfl⟩),bs,h1,?_⟩
   refine h2.of_same (clM_same (moveF_fit K [] (fit_nil _)) ⟨(once_nod _).filter _,fun x hx=>?_⟩ fun y=>?_)
   .exact (hsub x (by simpa using (List.mem_filter.1 hx).2)).2
   .rw [List.mem_filter,decide_eq_true_iff]
    exact ⟨fun z=>⟨(hsub y z).1,z⟩,fun z=>z.2⟩
 rw [List.length_cons,List.length_map,subs_len] at this
 have h2:2 ^ NX.length<=2 ^ 8:=Nat.pow_le_pow_right (by omega) hNX
 omega
theorem lg_eq (g:Nat->Int) (L:Nat) (s:ByteArray):∀ (f i p:Nat) (r:Int × Int × Bool),lg g L s f i p r=dLg g L s f i p r
 | 0,i,p,r=>rfl
 | f+1,i,p,r=>by
   rw [lg,dLg]
   split
   .rfl
   .split
    .rfl
    .exact lg_eq g L s f _ _ _
theorem lgR_eq (g:Nat->Int) (L:Nat) (s:ByteArray):lgR g L s=dLgR g L s:=by
 unfold lgR dLgR
 split
 .rfl
 .exact lg_eq g L s _ _ _ _
theorem IC.mono {H H':KH} {a:OA} {n:Nat} {g:Nat->Int} (h:IC H a n g) (hl:Le H H'):IC H' a n g:=by
 rcases h with h | ⟨b,o,e,h1,h2,h3⟩
 .exact .inl h
 .exact .inr ⟨b,o,e,h1,hl b e h2,h3⟩
theorem KsOk.pos {S:List St} {ts:List ByteArray} (h:KsOk S ts):0<ts.length:=by
 obtain ⟨bs,q,_⟩:=h.fst
 rcases Nat.eq_zero_or_pos ts.length with z | z
 .rw [List.eq_nil_of_length_eq_zero z] at q; cases q
 .exact z
end Go.Ew
namespace Go.Proofs.Ytlgpleiobieniaa
open Go.Ev Go.Ew
namespace Va
section
variable (ok : EnvOk (env Try.prog))
include ok
theorem c9p {pats:List (List It)} (hpar:∀ l∈pats,∃ s,parseR s=some l) (hp:pats.length<=50) {a:OA} {c:Nat} {H:KH} {Q:PQ} (hst:SsN H (nfaM pats) a)
 (hq:∀ ra rc ts g H',Le H H'->IC H' ra (ts.length*257) g->KsOk (nfaM pats) ts->RowsC (nfaM pats) ts g ts.length->ts.length<=300->Q (.slice ra ts.length rc) H')
 (hmany:∀ H',Le H H'->8<clsAll pats->Q (.slice none 0 0) H'):Does (env Try.prog) 14 [.slice a (nfaM pats).length c] H Q:=by
 obtain ⟨g1,_,_⟩:=good_of hpar
 obtain ⟨h1,h2⟩:=nfaM_small g1 hp
 exact c14 ok hst (nfaM_byte hpar) (by unfold nfaM; simp) h1 h2 hq fun ts H' l1 l2 l3=>hmany H' l1 (few_rows hpar l2 l3)
end
end Va
end Go.Proofs.Ytlgpleiobieniaa
namespace Go.Proofs.Ytlgpleiobieniaa
open Go.Ev Go.Ew
namespace Va
def W7 (P:Program):WE:=⟨env P,tupT,[],mkTab [],7⟩
def vc7 (p0:OA) (p0n p0c:Nat) (H:KH) (Q:PQ):Prop :=
 Does (env Try.prog) 17 [(.slice p0 p0n p0c)] H fun l k=>∃ (c:(OA)) (d e:Nat) (a:Bool),l=(.tuple #[.slice c d e,.bool a])/\((!a)=true->Q (.tuple #[.slice none 0 0,.bool false]) k)/\((!a)=false->Does (env Try.prog) 15 [(.slice c d e)] k fun m n=>∃ (f:(OA)) (g h:Nat),m=(.slice f g h)/\Does (env Try.prog) 14 [(.slice f g h)] n fun o p=>∃ (i:(OA)) (b j:Nat),o=(.slice i b j)/\Q (.tuple #[.slice i b j,.bool (decide ((0:Int)<(b:Int)))]) p)
theorem fn7 (ok:EnvOk (env Try.prog)) {p0:OA} {p0n p0c:Nat} {H:KH} {Q:PQ} (h:vc7 p0 p0n p0c H Q):Does (env Try.prog) 7 [.slice p0 p0n p0c] H Q :=
 wFun_sound (W:=W7 Try.prog) ok.tt (blt_lt (by kernel_rfl)) (ff_of ok (by kernel_rfl) Try.func7) (Eq.mpr (by kernel_rfl) h)
def W9 (P:Program):WE:=⟨env P,tupT,[6],mkTab [(2000010,[.tmp 5 .bool]),(1000010,[.agg 10 [.int .i64 0,.int .i64 0,.int .i64 0]])],9⟩
def vc9 (p0:OA) (p0n p0c:Nat) (p1:ByteArray) (H:KH) (Q:PQ):Prop :=
 (∀ (b:Nat),((H b):(Option (Ent)))=none->Does (env Try.prog) 21 [.slice p0 p0n p0c,.string p1] (KH.new H b (mkEnt [(.slice none 0 0)] 0)) fun ab aa=>∃ (n:Nat) (o:(List Value)),ab=(.func (.func n) #[] (List.toArray o))/\FnIn (env Try.prog) n/\∀ (a:Nat) (d:Lp),((aa a):(Option (Ent)))=none->(∀ (h:Int) (i:Int) (j:Int) (c:KH) (p:(PQ)),((c a):(Option (Ent)))=(some (lpE d 0 none))->(∃ (q:(OA)) (r s:Nat),ld (KH.del c a) ⟨b,0,none⟩ [(.slice q r s)]/\∀ (e:Nat),(((KH.del c a) e):(Option (Ent)))=none->∀ (t:Nat),(((KH.new (KH.del c a) e (mkEnt [.int .i64 h,.int .i64 i,.int .i64 j] 0)) t):(Option (Ent)))=none->∃ (u:Nat) (v:(List Value)),((knew (KH.new (KH.del c a) e (mkEnt [.int .i64 h,.int .i64 i,.int .i64 j] 0)) ⟨3,24,true,3,0,0,[(0,1),(1,1),(2,1)],[.int .i64 0,.int .i64 0,.int .i64 0]⟩ (.slice (some ⟨e,0,none⟩) 1 1)):(Option (Nat × (List Value))))=(some (u,v))/\∃ (k:(OA)) (l m:Nat) (f:KH),((kappend (KH.new (KH.del c a) e (mkEnt [.int .i64 h,.int .i64 i,.int .i64 j] 0)) t ⟨3,24,true,3,0,0,[(0,1),(1,1),(2,1)],[.int .i64 0,.int .i64 0,.int .i64 0]⟩ q r s u v):(Option (Value × KH)))=(some (.slice k l m,f))/\(∃ (w:(List Value)),((List.length w):Nat)=(List.length [(Value.slice k l m)])/\ld f ⟨b,0,none⟩ w)/\KH.may f b/\((((KH.put f ⟨b,0,none⟩ [(.slice k l m)]) a):(Option (Ent)))=none->p (.bool true) (KH.new (KH.put f ⟨b,0,none⟩ [(.slice k l m)]) a (lpE d 0 none))))->DoesR (env Try.prog) a [(.agg #[.int .i64 h,.int .i64 i,.int .i64 j])] c p)->Does (env Try.prog) n ([(.func (.yield a) #[] #[])]++o) (KH.new aa a (lpE d 0 none)) fun ac g=>(((g a):(Option (Ent)))=(some (lpE d 0 none))/\∃ (x:(OA)) (y z:Nat),ld (KH.del g a) ⟨b,0,none⟩ [(.slice x y z)]/\Q (.slice x y z) (KH.del g a))\/((((g a):(Option (Ent)))=(some (lpE d 2 (some .ret)))/\Q (.slice none 0 0) (KH.del g a))\/False))
theorem fn9 (ok:EnvOk (env Try.prog)) {p0:OA} {p0n p0c:Nat} {p1:ByteArray} {H:KH} {Q:PQ} (h:vc9 p0 p0n p0c p1 H Q):Does (env Try.prog) 9 [.slice p0 p0n p0c,.string p1] H Q :=
 wFun_sound (W:=W9 Try.prog) ok.tt (blt_lt (by kernel_rfl)) (ff_of ok (by kernel_rfl) Try.func9) (Eq.mpr (by kernel_rfl) h)
def W17 (P:Program):WE:=⟨env P,tupT,[6],mkTab [(0,[.tmp 4 .slice,.tmp 9 .slice,.tmp 10 (.int .i64),.tmp 11 (.int .i64)])],17⟩
def vc17_L2 (y1:OA) (y2 y3:Nat) (y4:KH) (y5:PQ):Prop :=
 (∃ (i:(Nat->OA->Nat->Nat->OA->Nat->Nat->Int->Int->KH->Prop)),(∃ (ac:Nat),i ac none 0 0 y1 y2 y3 (y2:Int) 0 y4)/\∀ (p:Nat) (j:(OA)) (k l:Nat) (m:(OA)) (n q:Nat) (d a:Int) (e:KH),i p j k l m n q d a e->(decide (a<d)=true->((0:Int)<=a/\a<(n:Int))/\∃ (r s:Nat),m=some ⟨r,s,none⟩/\∃ (ad t:ByteArray) (ae:Bool),ld e ⟨r,s+((Int.toNat a)*3),none⟩ [.string ad,.string t,.bool ae]/\Does (env Try.prog) 30 [(.string t)] e fun af c=>∃ (f:(OA)) (g h:Nat) (o:Bool),af=(.tuple #[.slice f g h,.bool o])/\((!o)=true->y5 (.tuple #[.slice none 0 0,.bool false]) c)/\((!o)=false->∀ (b:Nat),((c b):(Option (Ent)))=none->∀ (u:Nat),(((KH.new c b (mkEnt [(.slice f g h)] 0)) u):(Option (Ent)))=none->∃ (v:Nat) (w:(List Value)),((knew (KH.new c b (mkEnt [(.slice f g h)] 0)) ⟨1,24,false,1,70,0,[],[(.slice none 0 0)]⟩ (.slice (some ⟨b,0,none⟩) 1 1)):(Option (Nat × (List Value))))=(some (v,w))/\∃ (x:(OA)) (y z:Nat) (aa:KH),((kappend (KH.new c b (mkEnt [(.slice f g h)] 0)) u ⟨1,24,false,1,70,0,[],[(.slice none 0 0)]⟩ j k l v w):(Option (Value × KH)))=(some (.slice x y z,aa))/\∃ (ab:Nat),(ab:Nat)<p/\i ab x y z m n q d (IntKind.wrap .i64 (a+1)) aa))/\(decide (a<d)=false->y5 (.tuple #[.slice j k l,.bool true]) e))
def vc17 (p0:OA) (p0n p0c:Nat) (H:KH) (Q:PQ):Prop :=
 (vc17_L2 p0 p0n p0c H Q)
theorem fn17 (ok:EnvOk (env Try.prog)) {p0:OA} {p0n p0c:Nat} {H:KH} {Q:PQ} (h:vc17 p0 p0n p0c H Q):Does (env Try.prog) 17 [.slice p0 p0n p0c] H Q :=
 wFun_sound (W:=W17 Try.prog) ok.tt (blt_lt (by kernel_rfl)) (ff_of ok (by kernel_rfl) Try.func17) (Eq.mpr (by kernel_rfl) h)
def W21 (P:Program):WE:=⟨env P,tupT,[],mkTab [],21⟩
def vc21 (p0:OA) (p0n p0c:Nat) (p1:ByteArray) (H:KH) (Q:PQ):Prop :=
 (∀ (a:Nat),((H a):(Option (Ent)))=none->∀ (b:Nat),(((KH.new H a (mkEnt [(.slice p0 p0n p0c)] 0)) b):(Option (Ent)))=none->Q (.func (.func 36) #[] #[.pointer (some ⟨b,0,none⟩),.pointer (some ⟨a,0,none⟩)]) (KH.new (KH.new H a (mkEnt [(.slice p0 p0n p0c)] 0)) b (mkEnt [(.string p1)] 0)))
theorem fn21 (ok:EnvOk (env Try.prog)) {p0:OA} {p0n p0c:Nat} {p1:ByteArray} {H:KH} {Q:PQ} (h:vc21 p0 p0n p0c p1 H Q):Does (env Try.prog) 21 [.slice p0 p0n p0c,.string p1] H Q :=
 wFun_sound (W:=W21 Try.prog) ok.tt (blt_lt (by kernel_rfl)) (ff_of ok (by kernel_rfl) Try.func21) (Eq.mpr (by kernel_rfl) h)
def W36 (P:Program):WE:=⟨env P,tupT,[5],mkTab [(0,[.tmp 0 .yld,.tmp 1 .ptr,.tmp 2 .ptr,.tmp 4 (.int .i64)])],36⟩
def vc36_L1 (y1 y2 y3 y4 y5:Nat) (y6:KH) (y7:PQ):Prop :=
 (∃ (f:(Nat->Nat->Nat->Nat->Nat->Nat->Int->KH->Prop)),(∃ (t:Nat),(none:(Option Nat))=none/\(none:(Option Nat))=none/\f t y1 y2 y3 y4 y5 0 y6)/\∀ (m g d e h i:Nat) (a:Int) (b:KH),f m g d e h i a b->∃ (j:ByteArray),ld b ⟨d,e,none⟩ [(.string j)]/\(((decide (a<(((ByteArray.size j):Nat):Int))):Bool)=true->True/\∃ (n:(OA)) (o p:Nat),ld b ⟨h,i,none⟩ [(.slice n o p)]/\∃ (c:ByteArray),ld b ⟨d,e,none⟩ [(.string c)]/\((0:Int)<=a/\a<=(((ByteArray.size c):Nat):Int)/\((((ByteArray.size c):Nat):Int):Int)<=(((ByteArray.size c):Nat):Int))/\Does (env Try.prog) 37 [.slice n o p,.string (strCut c a (((ByteArray.size c):Nat):Int))] b fun v w=>∃ (q u k:Int),v=(.agg #[.int .i64 q,.int .i64 u,.int .i64 k])/\True/\True/\DoesR (env Try.prog) g [(.agg #[.int .i64 q,.int .i64 a,.int .i64 k])] w fun x s=>∃ (l:Bool),x=(.bool l)/\((!l)=true->y7 (.tuple #[]) s)/\((!l)=false->∃ (r:Nat),(r:Nat)<m/\(none:(Option Nat))=none/\(none:(Option Nat))=none/\f r g d e h i (IntKind.wrap .i64 (a+k)) s))/\(((decide (a<(((ByteArray.size j):Nat):Int))):Bool)=false->y7 (.tuple #[]) b))
def vc36 (p0 k0b k0o k1b k1o:Nat) (H:KH) (Q:PQ):Prop :=
 (vc36_L1 p0 k0b k0o k1b k1o H Q)
theorem fn36 (ok:EnvOk (env Try.prog)) {p0 k0b k0o k1b k1o:Nat} {H:KH} {Q:PQ} (h:vc36 p0 k0b k0o k1b k1o H Q):Does (env Try.prog) 36 [.func (.yield p0) #[] #[],.pointer (some ⟨k0b,k0o,none⟩),.pointer (some ⟨k1b,k1o,none⟩)] H Q :=
 wFun_sound (W:=W36 Try.prog) ok.tt (blt_lt (by kernel_rfl)) (ff_of ok (by kernel_rfl) Try.func36) (Eq.mpr (by kernel_rfl) h)
def W37 (P:Program):WE:=⟨env P,tupT,[4],mkTab [],37⟩
def vc37 (p0:OA) (p0n p0c:Nat) (p1:ByteArray) (H:KH) (Q:PQ):Prop :=
 Does (env Try.prog) 16 [.slice p0 p0n p0c,.string p1] H fun e d=>∃ (b c:Int) (a:Bool),e=(.tuple #[.int .i64 b,.int .i64 c,.bool a])/\((!a)=true->Q (.agg #[.int .i64 (-1),.int .i64 0,.int .i64 1]) d)/\((!a)=false->Q (.agg #[.int .i64 b,.int .i64 0,.int .i64 c]) d)
theorem fn37 (ok:EnvOk (env Try.prog)) {p0:OA} {p0n p0c:Nat} {p1:ByteArray} {H:KH} {Q:PQ} (h:vc37 p0 p0n p0c p1 H Q):Does (env Try.prog) 37 [.slice p0 p0n p0c,.string p1] H Q :=
 wFun_sound (W:=W37 Try.prog) ok.tt (blt_lt (by kernel_rfl)) (ff_of ok (by kernel_rfl) Try.func37) (Eq.mpr (by kernel_rfl) h)
end Va
end Go.Proofs.Ytlgpleiobieniaa
namespace Go.Ew
open Go.Ev Go.Deep
def ParsE (rs:List ByteArray) (pats:List (List It)):Prop:=rs.map parseR=pats.map some
theorem ParsE.len {rs:List ByteArray} {pats:List (List It)} (h:ParsE rs pats):pats.length=rs.length:=by
 have:=congrArg List.length h
 simpa using this.symm
theorem ParsE.par {rs:List ByteArray} {pats:List (List It)} (h:ParsE rs pats):∀ l∈pats,∃ s,parseR s=some l:=fun l hl=>by
 have:some l∈rs.map parseR:=by rw [h]; exact List.mem_map.2 ⟨l,hl,rfl⟩
 obtain ⟨s,_,hs⟩:=List.mem_map.1 this
 exact ⟨s,hs⟩
theorem some_list:∀ {p q:List (List It)},p.map some=q.map some->p=q
 | [],[],_=>rfl
 | [],b :: q,h=>by cases h
 | a :: p,[],h=>by cases h
 | a :: p,b :: q,h=>by
   simp only [List.map_cons,List.cons.injEq,Option.some.injEq] at h
   rw [h.1,some_list h.2]
theorem ParsE.same {rs:List ByteArray} {p q:List (List It)} (h:ParsE rs p) (g:ParsE rs q):p=q:=some_list (by rw [<- h,<- g])
theorem ParsE.snoc {rs:List ByteArray} {pats:List (List It)} {k:Nat} {l:List It} (hk:k<rs.length) (h:ParsE (rs.take k) pats) (hl:parseR rs[k]=some l):ParsE (rs.take (k+1)) (pats++[l]):=by
 unfold ParsE at *
 rw [List.take_succ_eq_append_getElem hk,List.map_append,h,List.map_append]
 simp [hl]
theorem ParsE.no {rs:List ByteArray} {pats:List (List It)} (h:ParsE rs pats):¬ ∃ s∈rs,parseR s=none:=fun ⟨s,hs,hn⟩=>by
 have:parseR s∈pats.map some:=by rw [<- h]; exact List.mem_map.2 ⟨s,hs,rfl⟩
 rw [hn] at this
 simp at this
theorem PtC.snoc {X:KH} {l:List It} {a:OA} {c:Nat} (hi:ItR X l a) (hso:SlOk X 2 a l.length c):∀ {ps:List (List It)} {ds:List Value},PtC X ps ds->PtC X (ps++[l]) (ds++[.slice a l.length c])
 | [],ds,h=>by
   have h:ds=[]:=h
   subst h
   exact ⟨a,c,[],rfl,⟨hi,hso⟩,rfl⟩
 | q :: ps,ds,⟨a9,c14,es,g1,g2,g3⟩=>⟨a9,c14,es++[.slice a l.length c],by rw [g1]; rfl,g2,PtC.snoc hi hso g3⟩
theorem TkC.get3:∀ {r:List ByteArray} {cs:List Value} {k:Nat} {s:ByteArray},TkC r cs->r[k]? = some s->∃ nm b,(cs.drop (k*3)).take 3=[.string nm,.string s,.bool b]
 | [],cs,k,s,h,hk=>by simp at hk
 | x :: r,cs,0,s,⟨nm',b',ds,h1,h2⟩,hk=>by
   have hk:x=s:=by simpa using hk
   subst hk; subst h1; exact ⟨nm',b',rfl⟩
 | x :: r,cs,k+1,s,⟨nm',b',ds,h1,h2⟩,hk=>by
   subst h1
   have hk:r[k]? = some s:=by simpa using hk
   obtain ⟨nm,b,h⟩:=TkC.get3 h2 hk
   refine ⟨nm,b,?_⟩
   have e:(k+1)*3=k*3+3:=by omega
   rw [e]
   simpa using h
end Go.Ew
namespace Go.Proofs.Ytlgpleiobieniaa
open Go.Ev Go.Ew
namespace Va
section
variable (ok : EnvOk (env Try.prog))
include ok
theorem c17 {rs:List ByteArray} {a:OA} {c:Nat} {H:KH} {Q:PQ} (hk:TkR H rs a) (hs:rs.length<=1000)
 (hq:∀ (pats:List (List It)) a' c' X H' cs,ParsE rs pats->Le H X->Le X H'->Gr H' 1 a' pats.length c' cs []->PtC X pats cs->(∀ b,blk a'=some b->X b=none)->Q (.tuple #[.slice a' pats.length c',.bool true]) H')
 (hno:(∃ s∈rs,parseR s=none)->∀ H',Le H H'->Q (.tuple #[.slice none 0 0,.bool false]) H'):Does (env Try.prog) 17 [.slice a rs.length c] H Q:=by
 obtain ⟨tc,tk,tt⟩:=hk
 refine fn17 ok ?_
 unfold vc17 vc17_L2
 refine ⟨fun n3 a7 n8 n9 a4 n5 n6 x11 x10 H11=>a4=a/\n5=rs.length/\x11=(rs.length:Nat)/\∃ (k:Nat) (pats:List (List It)) (cs:List Value) (X:KH),x10=k/\k<=rs.length/\n3=rs.length-k/\n8=pats.length/\pats.length=k/\ParsE (rs.take k) pats/\Le H X/\Le X H11/\Gr H11 1 a7 n8 n9 cs []/\PtC X pats cs/\∀ b,blk a7=some b->X b=none,
  ⟨rs.length,rfl,rfl,rfl,0,[],[],H,rfl,by omega,rfl,rfl,rfl,rfl,Le.refl _,Le.refl _,.nil,rfl,fun b q=>by cases q⟩,?_⟩
 rintro n3 a7 n8 n9 a4 n5 n6 x11 x10 H11 ⟨rfl,rfl,rfl,k,pats,cs,X,rfl,hk,rfl,rfl,hpk,hpp,hHX,hX,hG,hP,hout⟩
 refine ⟨fun hlt=>?_,fun hge=>?_⟩
 .have hlt:k<rs.length:=by have:=of_decide_eq_true hlt; omega
  have e0:Int.toNat ((k:Nat):Int)=k:=by omega
  have hks:rs[k]? = some rs[k]:=by simp [hlt]
  obtain ⟨b1,o1,e1,r1⟩:=rowAddr ((hHX.trans hX).kold tk) (by omega)
  have g1:=r1 (k*3) 3 (by omega)
  obtain ⟨nm,sk,e2⟩:=TkC.get3 tt hks
  rw [e2] at g1
  rw [e0]
  refine ⟨⟨by omega,by omega⟩,b1,o1,e1,nm,rs[k],sk,g1,Does.only hX (c51s ok (fun hn X' hXX H5 hX5 hrest=>⟨_,_,_,_,rfl,fun _=>hno ⟨rs[k],List.getElem_mem hlt,hn⟩ H5 ((hHX.trans hXX).trans hX5),fun q=>(by cases q)⟩) fun l hl a6 c5 X' hXX hi hso H5 hX5 hrest=>⟨_,_,_,_,rfl,fun q=>(by cases q),fun _ n1 h1 n2 h2=>?_⟩)⟩
  have l1:=Le.new (e:=mkEnt [Value.slice a6 l.length c5] 0) h1
  have hG5:Gr H5 1 a7 pats.length n9 cs []:=hG.agree fun q e z1 z2=>(hrest q e z2 (hout q z1)).1
  obtain ⟨a',H',ex',f1,f2,f3,f4,f5⟩:=(hG5.agree fun q e _ z=>l1 q e z).append (ti:=PT1) (new:=[.slice a6 l.length c5]) h2 rfl (by omega) (by decide) (by decide)
  have hx:=f3 rfl
  subst hx
  have hout':∀ b,blk a7=some b->X' b=none:=fun b q=>by
   obtain ⟨e,z⟩:=hG.at' q
   exact (hrest b e z (hout b q)).2
  refine ⟨1,_,knew_of (lit_kold (if_pos rfl) rfl),a',_,_,H',f1,rs.length-(k+1),by omega,rfl,rfl,rfl,k+1,pats++[l],_,X',by rw [wrap64 (by omega) (by omega)]; omega,by omega,rfl,by simp,by simp [hpk],hpp.snoc hlt hl,hHX.trans hXX,fun q e z=>f4 q e (l1 q e (hX5 q e z)) fun u=>(by rw [hout' q u] at z; cases z),f2,PtC.snoc hi hso (hP.mono hXX),fun b q=>?_⟩
  .rcases f5 b q with z | z
   .exact hout' b z
   .rw [z]; exact hX5.none (l1.none h2)
 .have hge:k=rs.length:=by have:=of_decide_eq_false hge; omega
  subst hge
  rw [List.take_length] at hpp
  exact hq pats a7 n9 X H11 cs hpp hHX hX hG hP hout
theorem c7 {rs:List ByteArray} {a:OA} {c:Nat} {H:KH} {Q:PQ} (hk:TkR H rs a) (hs:rs.length<=50)
 (hq:∀ pats ra rc ts g H',ParsE rs pats->Le H H'->IC H' ra (ts.length*257) g->KsOk (nfaM pats) ts->RowsC (nfaM pats) ts g ts.length->Q (.tuple #[.slice ra ts.length rc,.bool true]) H')
 (hmany:∀ pats H',ParsE rs pats->Le H H'->8<clsAll pats->Q (.tuple #[.slice none 0 0,.bool false]) H')
 (hno:(∃ s∈rs,parseR s=none)->∀ H',Le H H'->Q (.tuple #[.slice none 0 0,.bool false]) H'):Does (env Try.prog) 7 [.slice a rs.length c] H Q:=by
 refine fn7 ok (c17 ok hk (by omega) (fun pats a' c' X H2 cs hE hHX hX hG hP _=>⟨_,_,_,_,rfl,fun q=>(by cases q),fun _=>?_⟩) fun hn H' hl=>⟨_,_,_,_,rfl,fun _=>hno hn H' hl,fun q=>by cases q⟩)
 have hlen:=hE.len
 have hPR:PtR H2 pats a':=⟨cs,hG.row,hP.mono hX⟩
 refine c11p ok hPR hE.par (by omega) fun a8 c15 H7 hl7 hst=>⟨_,_,_,rfl,?_⟩
 refine c9p ok hE.par (by omega) hst (fun ra rc ts g H12 hl12 hI hks hC h300=>⟨_,_,_,rfl,?_⟩) fun H12 hl12 hmany'=>⟨_,_,_,rfl,?_⟩
 .rw [decide_eq_true (by have:=hks.pos; omega)]
  exact hq pats ra rc ts g H12 hE (((hHX.trans hX).trans hl7).trans hl12) hI hks hC
 .exact hmany pats H12 hE (((hHX.trans hX).trans hl7).trans hl12) hmany'
end
end Va
end Go.Proofs.Ytlgpleiobieniaa
namespace Go.Ew
open Go.Ev Go.Deep
def fstM (g:Nat->Int) (L:Nat) (w:ByteArray):Int × Int:=if (lgR g L w).2.2=true then ((lgR g L w).1,(lgR g L w).2.1) else (-1,1)
def fromB (s:ByteArray) (i:Nat):ByteArray:=strCut s ((i:Nat):Int) ((s.size:Nat):Int)
theorem fromB_size {s:ByteArray} {i:Nat} (h:i<=s.size):(fromB s i).size=s.size-i:=by
 unfold fromB strCut
 simp only [Int.toNat_natCast,ByteArray.size_extract]
 omega
inductive Tks (F:Nat->Int × Int) (N:Nat):Nat->List (Int × Nat × Int)->Prop where
 | nil:Tks F N N []
 | cons {i n:Nat} {r:List (Int × Nat × Int)} (h1:i<N) (h2:(F i).2=((n:Nat):Int)) (h3:1<=n) (h4:i+n<=N) (hr:Tks F N (i+n) r):Tks F N i (((F i).1,i,((n:Nat):Int)) :: r)
theorem Tks.ex {F:Nat->Int × Int} {N:Nat} (hF:∀ i,i<N->∃ n:Nat,(F i).2=((n:Nat):Int)/\1<=n/\i+n<=N):∀ (m i:Nat),N-i=m->i<=N->∃ r,Tks F N i r:=by
 intro m
 induction m using Nat.strongRecOn with
 | ind m ih =>
   intro i hm hi
   by_cases h:i=N
   .subst h; exact ⟨[],.nil⟩
   .obtain ⟨n,h1,h2,h3⟩:=hF i (by omega)
    obtain ⟨r,hr⟩:=ih (N-(i+n)) (by omega) (i+n) rfl h3
    exact ⟨_,.cons (by omega) h1 h2 h3 hr⟩
theorem Tks.len {F:Nat->Int × Int} {N:Nat}:∀ {i:Nat} {r:List (Int × Nat × Int)},Tks F N i r->r.length+i<=N
 | _,_,.nil=>by simp
 | i,_,.cons h1 h2 h3 h4 hr=>by
   have:=hr.len
   simp only [List.length_cons]
   omega
def tkC (l:List (Int × Nat × Int)):List Value:=l.flatMap fun x=>[.int .i64 x.1,.int .i64 ((x.2.1:Nat):Int),.int .i64 x.2.2]
theorem tkC_app (a b:List (Int × Nat × Int)):tkC (a++b)=tkC a++tkC b:=by simp [tkC]
abbrev TK3:TI:=⟨3,24,true,3,0,0,[(0,1),(1,1),(2,1)],[.int .i64 0,.int .i64 0,.int .i64 0]⟩
end Go.Ew
namespace Go.Proofs.Ytlgpleiobieniaa
open Go.Ev Go.Ew
namespace Va
section
variable (ok : EnvOk (env Try.prog))
include ok
theorem c37 {a:OA} {L c:Nat} {g:Nat->Int} {w:ByteArray} {H:KH} {Q:PQ} (hI:IC H a (L*257) g) (hs:w.size<=1000000)
 (hq:Q (.agg #[.int .i64 (fstM g L w).1,.int .i64 0,.int .i64 (fstM g L w).2]) H):Does (env Try.prog) 37 [.slice a L c,.string w] H Q:=by
 refine fn37 ok (c16 ok hI (by omega) ⟨_,_,_,rfl,fun q=>?_,fun q=>?_⟩)
 .have q:(lgR g L w).2.2=false:=by simpa using q
  unfold fstM at hq
  rw [if_neg (by rw [q]; simp)] at hq
  exact hq
 .have q:(lgR g L w).2.2=true:=by simpa using q
  unfold fstM at hq
  rw [if_pos q] at hq
  exact hq
theorem c36 {s:ByteArray} {g:Nat->Int} {L:Nat} {l kb ko k1b k1o:Nat} {H:KH} {Q:PQ} (Inv:List (Int × Nat × Int)->KH->Prop) (hs:s.size<=1000000)
 (hcell:∀ r H1,Inv r H1->ld H1 ⟨kb,ko,none⟩ [.string s]/\∃ ra rc,ld H1 ⟨k1b,k1o,none⟩ [.slice ra L rc]/\IC H1 ra (L*257) g)
 (hstep:∀ k i n r H1,Inv ((k,i,n) :: r) H1->DoesR (env Try.prog) l [.agg #[.int .i64 k,.int .i64 ((i:Nat):Int),.int .i64 n]] H1 fun v H2=>(v = .bool true/\Inv r H2)\/(v = .bool false/\Q (.tuple #[]) H2))
 (hend:∀ H1,Inv [] H1->Q (.tuple #[]) H1) {r0:List (Int × Nat × Int)} (hr:Tks (fun i=>fstM g L (fromB s i)) s.size 0 r0) (h0:Inv r0 H) :
 Does (env Try.prog) 36 [.func (.yield l) #[] #[],.pointer (some ⟨kb,ko,none⟩),.pointer (some ⟨k1b,k1o,none⟩)] H Q:=by
 refine fn36 ok ?_
 unfold vc36 vc36_L1
 refine ⟨fun m n4 n5 n6 n7 n8 x9 H10=>n4=l/\n5=kb/\n6=ko/\n7=k1b/\n8=k1o/\∃ (i:Nat) (r:List (Int × Nat × Int)),x9=i/\i<=s.size/\m=s.size-i/\Tks (fun i=>fstM g L (fromB s i)) s.size i r/\Inv r H10,⟨s.size,rfl,rfl,rfl,rfl,rfl,rfl,rfl,0,r0,rfl,by omega,rfl,hr,h0⟩,?_⟩
 rintro m n4 n5 n6 n7 n8 x9 H10 ⟨rfl,rfl,rfl,rfl,rfl,i,r,rfl,hi,rfl,ht,hinv⟩
 obtain ⟨hc,ra,rc,hrc,hI⟩:=hcell _ _ hinv
 refine ⟨s,hc,fun hlt=>?_,fun hge=>?_⟩
 .have hlt:i<s.size:=by have:=of_decide_eq_true hlt; omega
  cases ht with
  | nil=>omega
  | cons h1 h2 h3 h4 htr =>
    rename_i n r
    refine ⟨trivial,ra,_,rc,hrc,s,hc,⟨by omega,by omega,by omega⟩,c37 ok hI (by have:=fromB_size (s:=s) (i:=i) (by omega); unfold fromB at this; omega) ⟨_,_,_,rfl,trivial,trivial,?_⟩⟩
    have h2:(fstM g L (strCut s ((i:Nat):Int) ((s.size:Nat):Int))).2=((n:Nat):Int):=h2
    rw [h2]
    refine (hstep _ _ _ _ _ hinv).post fun v H3 hv=>?_
    rcases hv with ⟨rfl,hv⟩ | ⟨rfl,hv⟩
    .exact ⟨true,rfl,fun h=>(by cases h),fun _=>⟨s.size-(i+n),by omega,rfl,rfl,rfl,rfl,rfl,rfl,rfl,i+n,r,by rw [wrap64 (by omega) (by omega)]; omega,h4,rfl,htr,hv⟩⟩
    .exact ⟨false,rfl,fun _=>hv,fun h=>by cases h⟩
 .have hge:i=s.size:=by have:=of_decide_eq_false hge; omega
  subst hge
  cases ht with
  | nil=>exact hend _ hinv
  | cons h1=>omega
theorem c21 {a:OA} {L c:Nat} {s:ByteArray} {H:KH} {Q:PQ} (hq:∀ n1 n2,H n1=none->(H.new n1 (mkEnt [.slice a L c] 0)) n2=none->Q (.func (.func 36) #[] #[.pointer (some ⟨n2,0,none⟩),.pointer (some ⟨n1,0,none⟩)]) ((H.new n1 (mkEnt [.slice a L c] 0)).new n2 (mkEnt [.string s] 0))):Does (env Try.prog) 21 [.slice a L c,.string s] H Q:=fn21 ok fun n1 h1 n2 h2=>hq n1 n2 h1 h2
theorem c9 {a:OA} {L c:Nat} {g:Nat->Int} {s:ByteArray} {H:KH} {Q:PQ} (hI:IC H a (L*257) g) (hs:s.size<=100000)
 (hF:∀ i,i<s.size->∃ n:Nat,(fstM g L (fromB s i)).2=((n:Nat):Int)/\1<=n/\i+n<=s.size)
 (hq:∀ l a' c' ex H',Tks (fun i=>fstM g L (fromB s i)) s.size 0 l->Le H H'->Gr H' 3 a' l.length c' (tkC l) ex->Q (.slice a' l.length c') H'):Does (env Try.prog) 9 [.slice a L c,.string s] H Q:=by
 obtain ⟨all,hall⟩:=Tks.ex hF (s.size-0) 0 rfl (by omega)
 have hlen:=hall.len
 refine fn9 ok fun n1 h1=>c21 ok fun ns nt hns hnt=>⟨_,[.pointer (some ⟨nt,0,none⟩),.pointer (some ⟨ns,0,none⟩)],rfl,⟨(by kernel_rfl)⟩,fun n6 L7 h6 hR=>?_⟩
 have ns1:ns≠n1:=fun z=>by subst z; simp [KH.new] at hns
 have nts:nt≠ns:=fun z=>by subst z; simp [KH.new] at hnt
 have nt1:nt≠n1:=fun z=>by subst z; simp [KH.new,ns1.symm] at hnt
 have n6t:n6≠nt:=fun z=>by subst z; simp [KH.new] at h6
 have n6s:n6≠ns:=fun z=>by subst z; simp [KH.new,nts.symm] at h6
 have n61:n6≠n1:=fun z=>by subst z; simp [KH.new,nt1.symm,ns1.symm] at h6
 have hHs:H ns=none:=by simpa [KH.new,ns1] using hns
 have hHt:H nt=none:=by simpa [KH.new,nts,nt1] using hnt
 have hH6:H n6=none:=by simpa [KH.new,n6t,n6s,n61] using h6
 let Base:KH:=(H.new ns (mkEnt [.slice a L c] 0)).new nt (mkEnt [.string s] 0)
 have hBt:(H.new ns (mkEnt [.slice a L c] 0)) nt=none:=by simp only [KH.new]; rw [if_neg nts]; exact hHt
 have hBase:Le H Base:=(Le.new hHs).trans (Le.new hBt)
 have hB1:Base n1=none:=by simp only [Base,KH.new]; rw [if_neg nt1.symm,if_neg ns1.symm]; exact h1
 have hB6:Base n6=none:=by simp only [Base,KH.new]; rw [if_neg n6t,if_neg n6s]; exact hH6
 have hBS:Base ns=some (mkEnt [.slice a L c] 0):=by simp only [Base,KH.new]; rw [if_neg nts.symm]; exact if_pos trivial
 have hBT:Base nt=some (mkEnt [.string s] 0):=if_pos rfl
 have lits:∀ {cs:List Value} {K:KH} {n:Nat},K n=some (mkEnt cs 0)->ld K ⟨n,0,none⟩ cs:=fun {cs K n} hk=>⟨rfl,_,hk,rd_mk cs 0⟩
 let Inv:List (Int × Nat × Int)->KH->Prop:=fun r H1=>H1 n6=some (lpE L7 0 none)/\∃ (dn:List (Int × Nat × Int)) (am:OA) (cm:Nat) (ex:List Value),(∃ e,H1 n1=some e/\wrB e=true/\rd e.cells 0 1=some [.slice am dn.length cm])/\Gr H1 3 am dn.length cm (tkC dn) ex/\Le Base H1/\(∀ b,blk am=some b->Base b=none/\b≠n1/\b≠n6)/\dn++r=all
 refine c36 ok (s:=s) (g:=g) (L:=L) Inv (by omega) (fun r H1 hi=>?_) (fun k i n r H1 hi=>?_) (fun H1 hi=>?_) hall ?_
 .obtain ⟨g1,dn,am,cm,ex,g2,g3,g4,g5,g6⟩:=hi
  exact ⟨lits (g4 _ _ hBT),a,c,lits (g4 _ _ hBS),hI.mono (hBase.trans g4)⟩
 .obtain ⟨g1,dn,am,cm,ex,⟨e,e1,e2,e3⟩,g3,g4,g5,g6⟩:=hi
  have hdl:dn.length+1<=s.size:=by
   have:=congrArg List.length g6
   simp only [List.length_append,List.length_cons] at this
   omega
  have hdel:∀ q e,q≠n6->H1 q=some e->(H1.del n6) q=some e:=fun q e z1 z2=>by simp only [KH.del]; rw [if_neg z1]; exact z2
  have hc1:ld (H1.del n6) ⟨n1,0,none⟩ [.slice am dn.length cm]:=⟨rfl,e,hdel _ _ n61.symm e1,e3⟩
  refine hR k ((i:Nat):Int) n H1 _ g1 ⟨am,_,cm,hc1,fun n16 h16 n17 h17=>?_⟩
  have l16:=Le.new (e:=mkEnt [Value.int .i64 k,.int .i64 ((i:Nat):Int),.int .i64 n] 0) h16
  have hG:Gr ((H1.del n6).new n16 (mkEnt [Value.int .i64 k,.int .i64 ((i:Nat):Int),.int .i64 n] 0)) 3 am dn.length cm (tkC dn) ex:=g3.agree fun q e z1 z2=>l16 q e (hdel q e (g5 q z1).2.2 z2)
  obtain ⟨a',H',ex',f1,f2,_,f4,f5⟩:=hG.append (ti:=TK3) (new:=[.int .i64 k,.int .i64 ((i:Nat):Int),.int .i64 n]) h17 rfl (by omega) (by decide) (by decide)
  have h1':H' n1=some e:=f4 n1 e (l16 _ _ (hdel _ _ n61.symm e1)) fun z=>(g5 n1 z).2.1 rfl
  have hc1':ld H' ⟨n1,0,none⟩ [.slice am dn.length cm]:=⟨rfl,e,h1',e3⟩
  refine ⟨1,_,knew_of (lit_kold (if_pos rfl) rfl),a',_,unkU,H',f1,stOk hc1' rfl,⟨⟨e,h1',e2⟩⟩,fun h6'=>.inl ⟨rfl,if_pos rfl,dn++[(k,i,n)],a',unkU,ex',⟨⟨wr e.cells 0 [.slice a' (dn.length+1) unkU],e.len,e.unk,none⟩,?_,wrB_keep e2,?_⟩,?_,?_,fun b hb=>?_,by rw [List.append_assoc]; exact g6⟩⟩
  .simp only [KH.new]
   rw [if_neg n61.symm]
   simp only [KH.put,if_true,h1',Option.map_some]
  .have hl:(dn++[(k,i,n)]).length=dn.length+1:=by simp
   rw [hl]
   have:=rdWr (e:=e.cells) (N:=1) (o:=0) (xs:=[]) (ys:=[.slice am dn.length cm]) (zs:=[]) (vs:=[.slice a' (dn.length+1) unkU]) (by simpa using e3) rfl rfl
   simpa using this
  .have hl:(dn++[(k,i,n)]).length=dn.length+1:=by simp
   rw [hl,tkC_app]
   refine f2.agree fun q e z1 z2=>?_
   have q1:q≠n1:=fun z=>by
    rcases f5 q z1 with y | y
    .exact (g5 q y).2.1 z
    .have hb0:(H1.del n6) q=none:=by rw [y]; exact l16.none h17
     rw [z,hdel _ _ n61.symm e1] at hb0; cases hb0
   have q6:q≠n6:=fun z=>by
    have:(H'.put ⟨n1,0,none⟩ [.slice a' (dn.length+1) unkU]) q=some e:=put_ne q1 z2
    rw [z,h6'] at this; cases this
   simp only [KH.new]
   rw [if_neg q6]
   exact put_ne q1 z2
  .intro q e' z
   have q1:q≠n1:=fun y=>by rw [y,hB1] at z; cases z
   have q6:q≠n6:=fun y=>by rw [y,hB6] at z; cases z
   simp only [KH.new]
   rw [if_neg q6]
   exact put_ne q1 (f4 q e' (l16 q e' (hdel q e' q6 (g4 q e' z))) fun y=>by rw [(g5 q y).1] at z; cases z)
  .rcases f5 b hb with y | y
   .exact g5 b y
   .subst y
    have hb0:(H1.del n6) b=none:=l16.none h17
    refine ⟨?_,fun z=>?_,fun z=>?_⟩
    .rcases none_or Base b with q | ⟨e',q⟩
     .exact q
     .have q6:b≠n6:=fun y=>by rw [y,hB6] at q; cases q
      rw [hdel b e' q6 (g4 b e' q)] at hb0; cases hb0
    .rw [z,hdel _ _ n61.symm e1] at hb0; cases hb0
    .obtain ⟨e',he'⟩:=f2.at' hb
     have q1:b≠n1:=fun z=>by rw [z,hdel _ _ n61.symm e1] at hb0; cases hb0
     have:(H'.put ⟨n1,0,none⟩ [.slice a' (dn.length+1) unkU]) b=some e':=put_ne q1 he'
     rw [z,h6'] at this; cases this
 .obtain ⟨g1,dn,am,cm,ex,⟨e,e1,e2,e3⟩,g3,g4,g5,g6⟩:=hi
  rw [List.append_nil] at g6
  subst g6
  have hdel:∀ q e,q≠n6->H1 q=some e->(H1.del n6) q=some e:=fun q e z1 z2=>by simp only [KH.del]; rw [if_neg z1]; exact z2
  refine .inl ⟨g1,am,_,cm,⟨rfl,e,hdel _ _ n61.symm e1,e3⟩,hq dn am cm ex _ hall (fun q e z=>hdel q e (fun y=>by rw [y,hH6] at z; cases z) (g4 q e (hBase q e z))) (g3.agree fun q e z1 z2=>hdel q e (g5 q z1).2.2 z2)⟩
 .have hH4:∀ q e,q≠n6->(((H.new n1 (mkEnt [.slice none 0 0] 0)).new ns (mkEnt [.slice a L c] 0)).new nt (mkEnt [.string s] 0)) q=some e->((((H.new n1 (mkEnt [.slice none 0 0] 0)).new ns (mkEnt [.slice a L c] 0)).new nt (mkEnt [.string s] 0)).new n6 (lpE L7 0 none)) q=some e:=fun q e z1 z2=>by simp only [KH.new] at z2 ⊢; rw [if_neg z1]; exact z2
  refine ⟨if_pos rfl,[],none,0,[],⟨_,hH4 n1 _ n61.symm (by simp only [KH.new]; rw [if_neg nt1.symm,if_neg ns1.symm]; exact if_pos trivial),rfl,rd_mk [.slice none 0 0] 0⟩,.nil,fun q e z=>?_,(fun b q=>by cases q),rfl⟩
  have q1:q≠n1:=fun y=>by rw [y,hB1] at z; cases z
  have q6:q≠n6:=fun y=>by rw [y,hB6] at z; cases z
  refine hH4 q e q6 ?_
  simp only [Base,KH.new] at z ⊢
  by_cases a1:q=nt
  .rw [if_pos a1] at z ⊢; exact z
  .rw [if_neg a1] at z ⊢
   by_cases a2:q=ns
   .rw [if_pos a2] at z ⊢; exact z
   .rw [if_neg a2] at z ⊢
    rw [if_neg q1]; exact z
end
end Va
end Go.Proofs.Ytlgpleiobieniaa
