import Derived.Test.YtfhjkkbaghanhaaGreatEwDk1
import Derived.Test.YtfhjkkbaghanhaaGreatEwVc6
import Derived.Test.YtfhjkkbaghanhaaGreatEwNt1
import Derived.Test.YtfhjkkbaghanhaaGreatEwCells
import Derived.Test.YtfhjkkbaghanhaaGreatEwVal
set_option linter.unusedVariables false
set_option linter.unusedSimpArgs false
namespace Go.Ew
open Go.Ev Go.Deep
theorem stAt_mem {S:List St} {x:Nat} (h:x<S.length):stAt S x∈S:=by
 unfold stAt
 simp [h]
theorem takes_same {S:List St} {c:Nat} (h:¬ TurnP S (c+1)) {x:Nat} (hx:x<S.length):((stAt S x).lo≤((c+1:Nat):Int)∧((c+1:Nat):Int)≤(stAt S x).hi)↔((stAt S x).lo≤((c:Nat):Int)∧((c:Nat):Int)≤(stAt S x).hi):=by
 have h1:(stAt S x).lo≠((c+1:Nat):Int):=fun z=>h ⟨_,stAt_mem hx,.inl z⟩
 have h2:(stAt S x).hi+1≠((c+1:Nat):Int):=fun z=>h ⟨_,stAt_mem hx,.inr z⟩
 omega
theorem move_turn {S:List St} {c:Nat} (h:¬ TurnP S (c+1)):∀ (K t:List Nat),(∀ x∈K,x<S.length)→K.foldl (moveM S ((c+1:Nat):Int)) t=K.foldl (moveM S ((c:Nat):Int)) t
 | [],t,_=>rfl
 | x :: K,t,hK=>by
   have hs:=takes_same h (hK x (by simp))
   have:moveM S ((c+1:Nat):Int) t x=moveM S ((c:Nat):Int) t x:=by
    unfold moveM
    by_cases z:(stAt S x).lo≤((c:Nat):Int)∧((c:Nat):Int)≤(stAt S x).hi
    ·rw [if_pos z,if_pos (hs.2 z)]
    ·rw [if_neg z,if_neg fun q=>z (hs.1 q)]
   simp only [List.foldl_cons,this]
   exact move_turn h K _ fun y hy=>hK y (by simp [hy])
theorem move_zero {S:List St} (h:¬ TurnP S 0) (hb:ByteS S):∀ (K t:List Nat),(∀ x∈K,x<S.length)→K.foldl (moveM S ((0:Nat):Int)) t=t
 | [],t,_=>rfl
 | x :: K,t,hK=>by
   have hx:=hK x (by simp)
   have h1:(stAt S x).lo≠((0:Nat):Int):=fun z=>h ⟨_,stAt_mem hx,.inl z⟩
   have h2:=(hb _ (stAt_mem hx)).1
   have:moveM S ((0:Nat):Int) t x=t:=by
    unfold moveM
    rw [if_neg (fun z=>by omega)]
   simp only [List.foldl_cons,this]
   exact move_zero h hb K _ fun y hy=>hK y (by simp [hy])
theorem Bits.of_same {N:Nat} {bs:List Int} {m n:List Nat} (h:Bits N bs m) (hs:SameS m n):Bits N bs n:=⟨h.len,h.rng,fun i j b hb hj=>(h.is i j b hb hj).trans (hs _)⟩
def GoodN (S:List St) (ts:List ByteArray) (v:Int) (Z:List Nat):Prop:=(Z=[]∧v = -1)∨(Z≠[]∧∃ (k:Nat) (bs:List Int),v=((k:Nat):Int)∧ts[k]? = some (strB bs)∧Bits S.length bs Z)
theorem GoodN.same {S:List St} {ts:List ByteArray} {v:Int} {Z Z':List Nat} (h:GoodN S ts v Z) (hs:SameS Z Z'):GoodN S ts v Z':=by
 rcases h with ⟨h1,h2⟩ | ⟨h1,k,bs,h2,h3,h4⟩
 ·exact .inl ⟨hs.nil.1 h1,h2⟩
 ·exact .inr ⟨fun z=>h1 (hs.nil.2 z),k,bs,h2,h3,h4.of_same hs⟩
theorem GoodN.app {S:List St} {ts r:List ByteArray} {v:Int} {Z:List Nat} (h:GoodN S ts v Z):GoodN S (ts++r) v Z:=by
 rcases h with h | ⟨h1,k,bs,h2,h3,h4⟩
 ·exact .inl h
 ·refine .inr ⟨h1,k,bs,h2,?_,h4⟩
  have hk:k<ts.length:=by
   rcases Nat.lt_or_ge k ts.length with z | z
   ·exact z
   ·rw [List.getElem?_eq_none z] at h3; cases h3
  rw [List.getElem?_append_left hk]
  exact h3
def mxF (f:Nat→Int):Nat→Int→Int
 | 0,m=>m
 | b+1,m=>max (mxF f b m) (f b)
theorem mxF_congr {f g:Nat→Int} {m:Int}:∀ {n:Nat},(∀ b,b<n→f b=g b)→mxF f n m=mxF g n m
 | 0,_=>rfl
 | n+1,h=>by
   simp only [mxF]
   rw [mxF_congr fun b hb=>h b (by omega),h n (by omega)]
structure RowC (S:List St) (K:List Nat) (ts ts':List ByteArray) (f:Nat→Int) (n:Nat):Prop where
 fin:f 256=endM S K
 pre:∃ r,ts'=ts++r∧r.length≤n
 good:∀ b,b<n→GoodN S ts' (f b) (stepM S ((b:Nat):Int) K)
 new:∀ t∈ts',t∈ts∨∃ (b:Nat) (bs:List Int),t=strB bs∧Bits S.length bs (stepM S ((b:Nat):Int) K)
 nod:ts.Nodup→ts'.Nodup
 up:mxF f n ((ts.length:Int)-1)=(ts'.length:Int)-1
 ups:∀ b,b<n→f b≤mxF f b ((ts.length:Int)-1)+1
theorem RowC.nil {S:List St} {K:List Nat} {ts:List ByteArray} {f:Nat→Int} (h:f 256=endM S K):RowC S K ts ts f 0:=⟨h,⟨[],by simp,by simp⟩,fun b hb=>by omega,fun t ht=>.inl ht,id,rfl,fun b hb=>by omega⟩
def updF (f:Nat→Int) (j:Nat) (x:Int):Nat→Int:=fun k=>if k=j then x else f k
theorem RowC.step {S:List St} {K:List Nat} {ts ts1 ts2:List ByteArray} {f:Nat→Int} {n:Nat} {v:Int} (h:RowC S K ts ts1 f n) (hn:n<256) (hv:GoodN S ts2 v (stepM S ((n:Nat):Int) K))
 (h2:(ts2=ts1∧v<ts1.length)∨(∃ bs,ts2=ts1++[strB bs]∧v=ts1.length∧strB bs∉ts1∧Bits S.length bs (stepM S ((n:Nat):Int) K))):RowC S K ts ts2 (updF f n v) (n+1):=by
 have hf:∀ b,b<n→updF f n v b=f b:=fun b hb=>by unfold updF; rw [if_neg (by omega)]
 have hfn:updF f n v n=v:=by unfold updF; rw [if_pos rfl]
 have hmx:=mxF_congr (m:=(ts.length:Int)-1) hf
 obtain ⟨r,hr1,hr2⟩:=h.pre
 have happ:∃ q,ts2=ts1++q∧q.length≤1:=by
  rcases h2 with ⟨e,_⟩ | ⟨bs,e,_⟩
  ·exact ⟨[],by simp [e],by simp⟩
  ·exact ⟨[strB bs],e,by simp⟩
 obtain ⟨q,hq1,hq2⟩:=happ
 refine ⟨?_,⟨r++q,by rw [hq1,hr1,List.append_assoc],by simp; omega⟩,fun b hb=>?_,fun t ht=>?_,fun hnd=>?_,?_,fun b hb=>?_⟩
 ·unfold updF; rw [if_neg (by omega)]; exact h.fin
 ·by_cases e:b=n
  ·subst e; rw [hfn]; exact hv
  ·rw [hf b (by omega),hq1]; exact (h.good b (by omega)).app
 ·rcases h2 with ⟨e,_⟩ | ⟨bs,e,_,_,h5⟩
  ·rw [e] at ht; exact h.new t ht
  ·rw [e] at ht
   rcases List.mem_append.1 ht with z | z
   ·exact h.new t z
   ·exact .inr ⟨n,bs,by simpa using z,h5⟩
 ·rcases h2 with ⟨e,_⟩ | ⟨bs,e,_,h4,_⟩
  ·rw [e]; exact h.nod hnd
  ·rw [e,List.nodup_append]
   exact ⟨h.nod hnd,by simp,fun a z1 b z2 z3=>by
    have z2:b=strB bs:=by simpa using z2
    exact h4 (by rw [← z2,← z3]; exact z1)⟩
 ·simp only [mxF]
  rw [hmx,h.up,hfn]
  rcases h2 with ⟨e,h3⟩ | ⟨bs,e,h3,_⟩
  ·rw [e]; omega
  ·rw [e,h3]; simp; omega
 ·by_cases e:b=n
  ·subst e
   rw [hfn,hmx,h.up]
   rcases h2 with ⟨e,h3⟩ | ⟨bs,e,h3,_⟩<;>omega
  ·rw [hf b (by omega),mxF_congr (n:=b) (g:=f) fun k hk=>hf k (by omega)]
   exact h.ups b (by omega)
theorem intsR_get {k:IntKind} {n:Nat} {f:Nat→Int} (j:Nat):(intsR k n f)[j]? = if j<n then some (.int k (f j)) else none:=by
 by_cases h:j<n
 ·rw [if_pos h]; simp [intsR,h]
 ·rw [if_neg h,List.getElem?_eq_none (by rw [intsR_len]; omega)]
theorem intsR_drop {k:IntKind} {n i:Nat} (f:Nat→Int) (h:i<n):(intsR k n f).drop i = .int k (f i) :: (intsR k n f).drop (i+1):=by
 have hl:i<(intsR k n f).length:=by rw [intsR_len]; exact h
 rw [List.drop_eq_getElem_cons hl]
 simp [intsR]
theorem intsR_split {k:IntKind} {n i:Nat} (f:Nat→Int) (h:i<n):intsR k n f=(intsR k n f).take i++[.int k (f i)]++(intsR k n f).drop (i+1):=by
 rw [List.append_assoc]
 have h3:[.int k (f i)]++(intsR k n f).drop (i+1)=(intsR k n f).drop i:=by
  rw [intsR_drop f h]; rfl
 rw [h3,List.take_append_drop]
theorem intsR_upd {k:IntKind} {n i:Nat} (f:Nat→Int) (x:Int) (h:i<n):(intsR k n f).take i++[.int k x]++(intsR k n f).drop (i+1)=intsR k n (updF f i x):=by
 have hl:=intsR_len k n f
 apply List.ext_getElem?
 intro j
 rw [intsR_get,List.append_assoc]
 by_cases h1:j<i
 ·rw [List.getElem?_append_left (by simp [hl]; omega),List.getElem?_take_of_lt h1,intsR_get,if_pos (by omega),if_pos (by omega)]
  unfold updF
  rw [if_neg (by omega)]
 ·rw [List.getElem?_append_right (by simp [hl]; omega)]
  have hm:min i n=i:=by omega
  simp only [List.length_take,hl,hm]
  by_cases h2:j=i
  ·subst h2
   rw [Nat.sub_self,if_pos h]
   simp [updF]
  ·obtain ⟨d,hd⟩:∃ d,j-i=d+1:=⟨j-i-1,by omega⟩
   rw [hd]
   simp only [List.cons_append,List.nil_append,List.getElem?_cons_succ,List.getElem?_drop]
   have:i+1+d=j:=by omega
   rw [this,intsR_get]
   unfold updF
   rw [if_neg h2]
theorem intsR_last (k:IntKind) (n:Nat) (x:Int):List.replicate n (.int k 0)++[.int k x]=intsR k (n+1) (fun j=>if j=n then x else 0):=by
 apply List.ext_getElem?
 intro j
 rw [intsR_get]
 by_cases h:j<n
 ·rw [List.getElem?_append_left (by simpa using h),List.getElem?_replicate,if_pos h,if_pos (by omega),if_neg (by omega)]
 ·rw [List.getElem?_append_right (by simp; omega),List.length_replicate]
  by_cases h2:j=n
  ·subst h2; simp
  ·obtain ⟨d,hd⟩:∃ d,j-n=d+1:=⟨j-n-1,by omega⟩
   rw [hd,if_neg (by omega)]; rfl
theorem intsR_rep (k:IntKind) (n:Nat) (x:Int):intsR k n (fun _=>x)=List.replicate n (.int k x):=by
 unfold intsR
 rw [List.map_const',List.length_range]
theorem intsR_app (k:IntKind) (m n:Nat) (f g:Nat→Int):intsR k m g++intsR k n f=intsR k (m+n) fun j=>if j<m then g j else f (j-m):=by
 apply List.ext_getElem?
 intro j
 rw [intsR_get]
 by_cases h:j<m
 ·rw [List.getElem?_append_left (by rw [intsR_len]; exact h),intsR_get,if_pos h,if_pos (by omega),if_pos h]
 ·rw [List.getElem?_append_right (by rw [intsR_len]; omega),intsR_len,intsR_get]
  by_cases h2:j<m+n
  ·rw [if_pos (by omega),if_pos h2,if_neg h]
  ·rw [if_neg (by omega),if_neg h2]
def RowI (H:KH) (n:Nat) (f:Nat→Int):Prop:=∃ e,H n=some e∧wrB e=true∧rd e.cells 0 257=some (intsR .i64 257 f)
theorem RowI.at_ {H:KH} {n:Nat} {f:Nat→Int} (h:RowI H n f) {i:Nat} (hi:i<257):ld H ⟨n,0+0+i*1,none⟩ [.int .i64 (f i)]:=by
 obtain ⟨e,h0,h1,h2⟩:=h
 have hl:ld H ⟨n,0,none⟩ (intsR .i64 257 f):=⟨rfl,e,h0,by simpa [intsR_len] using h2⟩
 have:=ldSub hl (i*1) 1 (by rw [intsR_len]; omega)
 have h3:((intsR .i64 257 f).drop (i*1)).take 1=[.int .i64 (f i)]:=by
  rw [Nat.mul_one,intsR_drop f hi]; rfl
 rw [h3] at this
 exact this
theorem RowI.all {H:KH} {n:Nat} {f:Nat→Int} (h:RowI H n f):ld H ⟨n,0,none⟩ (intsR .i64 257 f):=by
 obtain ⟨e,h0,h1,h2⟩:=h
 exact ⟨rfl,e,h0,by simpa [intsR_len] using h2⟩
theorem RowI.may {H:KH} {n:Nat} {f:Nat→Int} (h:RowI H n f):KH.may H n:=by
 obtain ⟨e,h0,h1,h2⟩:=h
 exact ⟨⟨e,h0,h1⟩⟩
theorem RowI.put {H:KH} {n:Nat} {f:Nat→Int} (h:RowI H n f) {i:Nat} (hi:i<257) (x:Int):RowI (H.put ⟨n,0+0+i*1,none⟩ [.int .i64 x]) n (updF f i x):=by
 obtain ⟨e,h0,h1,h2⟩:=h
 refine ⟨⟨wr e.cells (0+0+i*1) [.int .i64 x],e.len,e.unk,none⟩,by simp only [KH.put,if_true,h0,Option.map_some],wrB_keep h1,?_⟩
 rw [← intsR_upd f x hi]
 exact rdWr (ys:=[.int .i64 (f i)]) (by rw [← intsR_split f hi]; exact h2) (by simp [intsR_len]; omega) rfl
theorem RowI.set {H:KH} {n:Nat} {f:Nat→Int} (h:RowI H n f) (g:Nat→Int):RowI (H.put ⟨n,0,none⟩ (intsR .i64 257 g)) n g:=by
 obtain ⟨e,h0,h1,h2⟩:=h
 refine ⟨⟨wr e.cells 0 (intsR .i64 257 g),e.len,e.unk,none⟩,by simp only [KH.put,if_true,h0,Option.map_some],wrB_keep h1,?_⟩
 have:=rdWr (e:=e.cells) (N:=257) (o:=0) (xs:=[]) (ys:=intsR .i64 257 f) (zs:=[]) (vs:=intsR .i64 257 g) (by simpa using h2) rfl (by rw [intsR_len,intsR_len])
 simpa using this
theorem RowI.agree {H H':KH} {n:Nat} {f:Nat→Int} (h:RowI H n f) (hk:∀ e,H n=some e→H' n=some e):RowI H' n f:=by
 obtain ⟨e,h0,h1,h2⟩:=h
 exact ⟨e,hk e h0,h1,h2⟩
theorem RowI.mk (H:KH) (n:Nat):RowI (H.new n (mkEnt (List.replicate 257 (.int .i64 0)) 0)) n (fun _=>0):=by
 refine ⟨_,if_pos rfl,rfl,?_⟩
 have:=rd_mk (intsR .i64 257 fun _=>0) 0
 rw [intsR_len,intsR_rep] at this
 rw [intsR_rep]
 exact this
theorem put_at {H:KH} {p o:Nat} {vs:List Value} {k:Nat} (hk:k≠p):(H.put ⟨p,o,none⟩ vs) k=H k:=by
 simp only [KH.put]; rw [if_neg hk]
end Go.Ew
set_option linter.unusedVariables false
set_option linter.unusedSimpArgs false
namespace Go.Proofs.YtfhjkkbaghanhaaGreat
open Go.Ev Go.Ew
namespace Va
section
variable (ok : EnvOk (env Tryz.prog))
include ok
theorem c33 {X H:KH} {BB:List Nat} {w:Nat} {S:List St} {a:OA} {c:Nat} {tf:Nat→Bool} {ts:List ByteArray} {K:List Nat} {bs:List Int} {Q:PQ}
 (hst:SsN X S a) (hX:Le X H) (hXB:∀ b∈BB,X b=none) (hk:KIn BB H w S a c tf ts) (htf:∀ i,i<256→(tf i=true↔TurnP S i)) (hby:ByteS S) (hb:Bits S.length bs K) (hK:∀ x∈K,x<S.length)
 (hS:S.length≤900000) (hfl:∀ x,(stAt S x).free.length≤1000000) (hl:ts.length≤600)
 (hq:∀ f ts' BB' H',KIn BB' H' w S a c tf ts'→Fr1 BB BB' H H'→RowC S K ts ts' f 256→Q (.agg (List.toArray (intsR .i64 257 f))) H') :
 Does (env Tryz.prog) 33 [.pointer (some ⟨w,0,none⟩),.agg #[.string (strB bs)]] H Q:=by
 refine fn33 ok fun n1 h1=>?_
 have l1:=Le.new (e:=mkEnt (List.replicate 257 (.int .i64 0)) 0) h1
 have hbl:=hb.len
 refine c54 ok hb.rng (by omega) fun am cm H3 hle3 hown=>⟨am,_,cm,rfl,?_⟩
 have hmem:SameS (membB bs 0) K:=hb.memb hK
 have hmlt:∀ x∈membB bs 0,x<S.length:=fun x hx=>hK x ((hmem x).1 hx)
 have hml:=membB_len bs 0
 have hH3:Le H H3:=l1.trans hle3
 have hk3:KIn BB H3 w S a c tf ts:=hk.up hH3
 have hBH:∀ b∈BB,∃ e,H b=some e:=hk.known
 have hrow3:=hown.cells
 refine c55 ok (hk3.bds (hst.mono (hX.trans hH3))) (Le.refl _) hrow3 hmlt hS (by omega) ⟨_,rfl,fun n10 h10=>?_⟩
 have hR0:=RowI.mk H3 n10
 refine ⟨stOk hR0.all (by show _=(List.replicate 256 (Value.int .i64 0)++[Value.int .i64 (endM S (membB bs 0))]).length; rw [intsR_len,List.length_append,List.length_replicate]; rfl),hR0.may,?_⟩
 -- what stays
 let Y:KH:=fun k=>if k∈BB then none else H3 k
 have hY:Le Y H3:=fun k e q=>by
  by_cases hb:k∈BB
  ·simp only [Y,if_pos hb] at q; cases q
  ·simp only [Y,if_neg hb] at q; exact q
 have hYo:∀ b∈BB,Y b=none:=fun b hb=>by simp only [Y,if_pos hb]
 have hYi:∀ k e,k∉BB→H3 k=some e→Y k=some e:=fun k e hb q=>by simp only [Y,if_neg hb]; exact q
 have hXY:Le X Y:=fun k e q=>hYi k e (fun hb=>by rw [hXB k hb] at q; cases q) (hH3 k e (hX k e q))
 have hn1B:n1∉BB:=fun hb=>by
  obtain ⟨e,he⟩:=hBH n1 hb
  rw [he] at h1; cases h1
 have hY1:Y n1=some (mkEnt (List.replicate 257 (.int .i64 0)) 0):=hYi n1 _ hn1B (hle3 n1 _ (if_pos rfl))
 have hrowY:kold Y 1 am (membB bs 0).length=some (natC (membB bs 0)):=(hown.agree (H':=Y) fun k e z1 z2=>hYi k e (fun hb=>by
  obtain ⟨e',he⟩:=hBH k hb
  have:=hown.out z1
  rw [l1 k e' he] at this; cases this) z2).cells
 have hYn:Y n10=none:=hY.none h10
 have hn10B:n10∉BB:=fun hb=>by
  obtain ⟨e,he⟩:=hk3.known n10 hb
  rw [he] at h10; cases h10
 unfold vc33_L3
 rw [show Array.toList (List.toArray (List.replicate 256 (Value.int .i64 0)++[Value.int .i64 (endM S (membB bs 0))]))=intsR .i64 257 (fun j=>if j=256 then endM S (membB bs 0) else 0) from intsR_last .i64 256 _]
 have hend:endM S (membB bs 0)=endM S K:=endM_same hmem
 have hR1:=hR0.set (fun j=>if j=256 then endM S (membB bs 0) else 0)
 have hHk:∀ k e,H k=some e→k≠n10:=fun k e q z=>by subst z; rw [hH3 k e q] at h10; cases h10
 refine ⟨fun n3 n4 n5 n6 n7 a8 n9 n10' n11 n12 x13 x14 H15=>n4=w∧n5=0∧n6=n1∧n7=0∧a8=am∧n9=(membB bs 0).length∧n11=n10∧n12=0∧∃ (i:Nat) (f:Nat→Int) (ts':List ByteArray) (BB':List Nat),x14=i∧i≤256∧n3=256-i∧KIn BB' H15 w S a c tf ts'∧Le Y H15∧(∀ b∈BB',Y b=none∧b≠n10)∧RowI H15 n10 f∧RowC S K ts ts' f i∧(i=0→x13 = -1)∧(∀ j,i=j+1→x13=f j)∧(∀ k e,H k=some e→k∉BB→H15 k=some e)∧(∀ b∈BB',b∈BB∨H b=none),
  ⟨256,rfl,rfl,rfl,rfl,rfl,rfl,rfl,rfl,rfl,rfl,rfl,0,_,ts,BB,rfl,by omega,rfl,?_,?_,fun b hb=>⟨hYo b hb,fun z=>hn10B (by rw [← z]; exact hb)⟩,hR1,.nil (by show (if 256=256 then _ else _)=_; rw [if_pos rfl]; exact hend),fun _=>rfl,fun j hj=>by omega,fun k e z1 z2=>?_,fun b hb=>.inl hb⟩,?_⟩
 ·exact hk3.agree fun k e z1 z2=>by
   have hne:k≠n10:=fun z=>hn10B (by rw [← z]; exact z1)
   rw [put_at hne]
   exact Le.new h10 k e z2
 ·intro k e q
  have hne:k≠n10:=fun z=>by subst z; rw [hYn] at q; cases q
  rw [put_at hne]
  exact Le.new h10 k e (hY k e q)
 ·rw [put_at (hHk k e z1)]
  exact Le.new h10 k e (hH3 k e z1)
 rintro n3 n4 n5 n6 n7 a8 n9 n10' n11 n12 x13 x14 H15 ⟨rfl,rfl,rfl,rfl,rfl,rfl,rfl,rfl,i,f,ts',BB',rfl,hi,rfl,hkI,hYH,hBY,hR,hC,hv0,hv1,hkp,hnw⟩
 refine ⟨fun hlt=>?_,fun hge=>?_⟩
 ·have hlt:i<256:=by have:=of_decide_eq_true hlt; omega
  have e0:Int.toNat ((i:Nat):Int)=i:=by omega
  have wi:IntKind.wrap .i64 (((i:Nat):Int)+1)=((i+1:Nat):Int):=by rw [wrap64 (by omega) (by omega)]; omega
  have w8:IntKind.wrap .u8 ((i:Nat):Int)=((i:Nat):Int):=IntWalk.u8_in _ ⟨by omega,by omega⟩
  obtain ⟨mp,ka,kc,ex,hs,hBe⟩:=hkI
  have hkI:KIn BB' H15 n4 S a c tf ts':=⟨mp,ka,kc,ex,hs,hBe⟩
  obtain ⟨r,hr1,hr2⟩:=hC.pre
  have hts:ts'.length≤900:=by rw [hr1]; simp; omega
  -- where the ways meet
  have join:∀ (v:Int) (ts2:List ByteArray) (BB2:List Nat) (H2:KH),KIn BB2 H2 n4 S a c tf ts2→Le Y H2→(∀ b∈BB2,Y b=none∧b≠n11)→RowI H2 n11 f→GoodN S ts2 v (stepM S ((i:Nat):Int) K)→
   ((ts2=ts'∧v<ts'.length)∨(∃ bs,ts2=ts'++[strB bs]∧v=ts'.length∧strB bs∉ts'∧Bits S.length bs (stepM S ((i:Nat):Int) K)))→
   (∀ k e,H k=some e→k∉BB→H2 k=some e)→(∀ b∈BB2,b∈BB∨H b=none)→
   vc33_J0 ((i:Nat):Int) v H2 n11 0 (256-i) (fun n3 n4_1 n5 n6_1 n7 a8_1 n9 n10' n11_1 n12 x13 x14 H15=>n4_1=n4∧n5=0∧n6_1=n6∧n7=0∧a8_1=a8∧n9=(membB bs 0).length∧n11_1=n11∧n12=0∧∃ (i:Nat) (f:Nat→Int) (ts':List ByteArray) (BB':List Nat),x14=i∧i≤256∧n3=256-i∧KIn BB' H15 n4 S a c tf ts'∧Le Y H15∧(∀ b∈BB',Y b=none∧b≠n11)∧RowI H15 n11 f∧RowC S K ts ts' f i∧(i=0→x13 = -1)∧(∀ j,i=j+1→x13=f j)∧(∀ k e,H k=some e→k∉BB→H15 k=some e)∧(∀ b∈BB',b∈BB∨H b=none)) n4 0 n6 0 a8 (membB bs 0).length n10':=by
   intro v ts2 BB2 H2 j1 j2 j3 j4 j5 j6 j7 j8
   unfold vc33_J0
   rw [e0,wi]
   refine ⟨rfl,⟨by omega,by omega⟩,rfl,stOk (j4.at_ (i:=i) (by omega)) rfl,j4.may,256-(i+1),by omega,rfl,rfl,rfl,rfl,rfl,rfl,rfl,rfl,rfl,rfl,rfl,i+1,updF f i v,ts2,BB2,rfl,by omega,rfl,?_,?_,j3,j4.put (i:=i) (by omega) v,hC.step hlt j5 j6,fun z=>by omega,fun j hj=>?_,fun k e z1 z2=>?_,j8⟩
   ·exact j1.agree fun k e z1 z2=>by rw [put_at (j3 k z1).2]; exact z2
   ·intro k e q
    have hne:k≠n11:=fun z=>by subst z; rw [hYn] at q; cases q
    rw [put_at hne]; exact j2 k e q
   ·have:i=j:=by omega
    subst this
    unfold updF; rw [if_pos rfl]
   ·rw [put_at (hHk k e z1)]; exact j7 k e z1 z2
  refine ⟨rfl,⟨by omega,by omega⟩,rfl,tf i,by rw [e0]; exact hs.turn hlt,fun ht=>?_,fun ht=>?_⟩
  ·rw [w8]
   have hYst:SsN H15 S a:=hst.mono (hXY.trans hYH)
   refine c56 ok (hkI.bds hYst) (Le.refl _) (hYH.kold hrowY) hmlt hS (by omega) fun H4 B p hW hle4 hfr=>⟨p,0,rfl,?_⟩
   have hk4:KIn BB' H4 n4 S a c tf ts':=hkI.up hle4
   have hBk:∀ b∈BB',∃ e,H15 b=some e:=hkI.known
   have hstep:SameS (stepM S ((i:Nat):Int) (membB bs 0)) (stepM S ((i:Nat):Int) K):=stepM_same hmem
   refine c53 ok hYst hle4 hk4 hW.dr (fun b z1 z2=>?_) hfr hS hfl hts (fun hz=>⟨_,rfl,?_⟩) (fun hz bs2 k ts2 BB2 H5 q1 q1b q2 q3 q4 q5=>⟨_,rfl,?_⟩)
   ·obtain ⟨e,he⟩:=hBk b z2
    rw [hfr b z1] at he; cases he
   ·have hz':stepM S ((i:Nat):Int) K=[]:=hstep.nil.1 (step_nil.2 hz)
    refine join (-1) ts' BB' H4 hk4 (hYH.trans hle4) hBY (hR.agree fun e q=>hle4 _ e q) (.inl ⟨hz',rfl⟩) (.inl ⟨rfl,by omega⟩) (fun k e z1 z2=>hle4 k e (hkp k e z1 z2)) hnw
   ·have q1:Bits S.length bs2 (stepM S ((i:Nat):Int) K):=Bits.of_same (m:=stepM S ((i:Nat):Int) (membB bs 0)) q1 hstep
    have hne:stepM S ((i:Nat):Int) K≠[]:=fun z=>hz (step_nil.1 (hstep.nil.2 z))
    have hkp4:∀ k e,H15 k=some e→k∉BB'→H5 k=some e:=fun k e z1 z2=>q3 k e (hle4 k e z1) z2 fun hb=>by rw [hfr k hb] at z1; cases z1
    have hfresh:∀ b∈BB2,b∈BB'∨H15 b=none:=fun b hb=>by
     rcases q4 b hb with z | z | z
     ·exact .inl z
     ·exact .inr (hfr b z)
     ·exact .inr (hle4.none z)
    have hY5:Le Y H5:=fun k e q=>hkp4 k e (hYH k e q) fun hb=>by rw [(hBY k hb).1] at q; cases q
    have hnY:∀ b∈BB2,Y b=none∧b≠n11:=fun b hb=>by
     rcases hfresh b hb with z | z
     ·exact hBY b z
     ·refine ⟨hYH.none z,fun y=>?_⟩
      subst y
      obtain ⟨e,he,_⟩:=hR
      rw [he] at z; cases z
    have hR5:RowI H5 n11 f:=hR.agree fun e q=>hkp4 n11 e q fun hb=>(hBY n11 hb).2 rfl
    have hkH:∀ k e,H k=some e→k∉BB→H5 k=some e:=fun k e z1 z2=>hkp4 k e (hkp k e z1 z2) fun hb=>by
     rcases hnw k hb with z | z
     ·exact z2 z
     ·rw [z] at z1; cases z1
    have hnH:∀ b∈BB2,b∈BB∨H b=none:=fun b hb=>by
     rcases hfresh b hb with z | z
     ·exact hnw b z
     ·rcases none_or H b with y | ⟨e,y⟩
      ·exact .inr y
      ·by_cases hbb:b∈BB
       ·exact .inl hbb
       ·rw [hkp b e y hbb] at z; cases z
    rcases q5 with ⟨rfl,q6⟩ | ⟨rfl,rfl,q6⟩
    ·have hkl:k<ts2.length:=by
      rcases Nat.lt_or_ge k ts2.length with z | z
      ·exact z
      ·rw [List.getElem?_eq_none z] at q6; cases q6
     exact join _ ts2 BB2 H5 q2 hY5 hnY hR5 (.inr ⟨hne,k,bs2,rfl,q6,q1⟩) (.inl ⟨rfl,by omega⟩) hkH hnH
    ·exact join _ _ BB2 H5 q2 hY5 hnY hR5 (.inr ⟨hne,ts'.length,bs2,rfl,by simp,q1⟩) (.inr ⟨bs2,rfl,rfl,q6,q1⟩) hkH hnH
  ·have hnt:¬ TurnP S i:=fun z=>by rw [(htf i hlt).2 z] at ht; cases ht
   have hg:GoodN S ts' x13 (stepM S ((i:Nat):Int) K):=by
    cases i with
    | zero =>
      refine .inl ⟨?_,hv0 rfl⟩
      rw [step_nil,move_zero hnt hby K [] hK]
    | succ j =>
      have h2:=hC.good j (by omega)
      rw [hv1 j rfl]
      have:stepM S ((j+1:Nat):Int) K=stepM S ((j:Nat):Int) K:=by
       unfold stepM
       rw [move_turn hnt K [] hK]
      rw [this]; exact h2
   have hlt2:x13<ts'.length:=by
    rcases hg with ⟨_,z⟩ | ⟨_,k,b2,z1,z2,_⟩
    ·omega
    ·have hkl:k<ts'.length:=by
      rcases Nat.lt_or_ge k ts'.length with z | z
      ·exact z
      ·rw [List.getElem?_eq_none z] at z2; cases z2
     omega
   exact join x13 ts' BB' H15 hkI hYH hBY hR hg (.inl ⟨rfl,hlt2⟩) hkp hnw
 ·have hge:i=256:=by have:=of_decide_eq_false hge; omega
  subst hge
  have hall:=hR.all
  have hR1:RowI H15 n6 (fun _=>0):=(RowI.mk H3 n6).agree fun e q=>by
   have:some (mkEnt (List.replicate 257 (.int .i64 0)) 0)=some e:=by rw [← q]; exact (if_pos rfl).symm
   rw [← this]
   exact hYH n6 _ hY1
  have hR2:=hR1.set f
  have hY1n:∀ b∈BB',b≠n6:=fun b hb z=>by
   have:=(hBY b hb).1
   rw [z,hY1] at this; cases this
  refine ⟨f,by rw [List.append_nil]; exact hall,stOk hR1.all (by show _=(intsR .i64 257 f).length; rw [intsR_len,intsR_len]),hR1.may,f,by rw [List.append_nil]; exact hR2.all,?_⟩
  refine hq f ts' BB' _ (hkI.agree fun k e z1 z2=>by rw [show Array.toList (List.toArray (intsR .i64 257 f))=intsR .i64 257 f from rfl,put_at (hY1n k z1)]; exact z2) ⟨fun k e z1 z2=>?_,hnw⟩ hC
  have:k≠n6:=fun z=>by subst z; rw [z1] at h1; cases h1
  rw [show Array.toList (List.toArray (intsR .i64 257 f))=intsR .i64 257 f from rfl,put_at this]
  exact hkp k e z1 z2
end
end Va
end Go.Proofs.YtfhjkkbaghanhaaGreat
set_option linter.unusedVariables false
set_option linter.unusedSimpArgs false
namespace Go.Ew
open Go.Ev Go.Deep
def IC (H:KH) (a:OA) (n:Nat) (g:Nat→Int):Prop:=n=0∨∃ b o e,a=some ⟨b,o,none⟩∧H b=some e∧∀ j,j<n→tget e.cells (o+j)=some (.int .i64 (g j))
theorem IC.ld {H:KH} {a:OA} {n:Nat} {g:Nat→Int} (h:IC H a n g) {j:Nat} (hj:j<n):∃ b o,a=some ⟨b,o,none⟩∧∀ j,j<n→ld H ⟨b,o+j,none⟩ [.int .i64 (g j)]:=by
 rcases h with h | ⟨b,o,e,h1,h2,h3⟩
 ·omega
 ·refine ⟨b,o,h1,fun j hj=>⟨rfl,e,h2,?_⟩⟩
  show rd e.cells (o+j) 1=_
  simp only [rd,h3 j hj]
theorem byteAt_rng (s:ByteArray) (i:Nat):0≤byteAt s i∧byteAt s i<256:=by
 unfold byteAt
 have:=UInt8.toNat_lt ((s.data.toList[i]?).getD 0)
 omega
theorem row_lt {x n j:Nat} (h:x<n) (hj:j<257):x*257+j<n*257:=by
 have:(x+1)*257≤n*257:=Nat.mul_le_mul_right _ h
 omega
def lg (g:Nat→Int) (L:Nat) (s:ByteArray):Nat→Nat→Nat→Int × Int × Bool→Int × Int × Bool
 | 0,_,_,st=>st
 | f+1,i,p,st =>
   if g (p*257+(byteAt s i).toNat)<0 then st else if (L:Int)≤g (p*257+(byteAt s i).toNat) then st else
    lg g L s f (i+1) (g (p*257+(byteAt s i).toNat)).toNat (if g ((g (p*257+(byteAt s i).toNat)).toNat*257+256)≠0 then (IntKind.wrap .i64 (g ((g (p*257+(byteAt s i).toNat)).toNat*257+256)-1),IntKind.wrap .i64 ((i:Int)+1),true) else st)
def lgR (g:Nat→Int) (L:Nat) (s:ByteArray):Int × Int × Bool:=if L=0 then (0,0,false) else lg g L s s.size 0 0 (0,0,false)
def tup3 (r:Int × Int × Bool):Value:=.tuple #[.int .i64 r.1,.int .i64 r.2.1,.bool r.2.2]
end Go.Ew
namespace Go.Proofs.YtfhjkkbaghanhaaGreat
open Go.Ev Go.Ew Go.Deep
namespace Va
variable (ok : EnvOk (env Tryz.prog))
include ok
theorem c68 {a:OA} {n c:Nat} {s:ByteArray} {H:KH} {g:Nat→Int} {Q:PQ} (h:IC H a (n*257) g) (hs:s.size<4611686018427387904) (hQ:Q (tup3 (lgR g n s)) H):Does (env Tryz.prog) 68 [.slice a n c,.string s] H Q:=by
 refine fn68 ok ⟨fun hz=>?_,fun hz=>?_⟩
 ·have hn:n=0:=by have:=of_decide_eq_true hz; omega
  subst hn
  exact hQ
 ·have hn:n≠0:=by have:=of_decide_eq_false hz; omega
  have hR:lgR g n s=lg g n s s.size 0 0 (0,0,false):=by unfold lgR; rw [if_neg hn]
  obtain ⟨b,o,ha,hld⟩:=h.ld (j:=0) (by omega)
  refine ⟨fun n3 a4 n5 n6 s7 x8 x9 b10 x11 x12 x13 H14=>a4=a∧n5=n∧n6=c∧s7=s∧x12=(s.size:Int)∧H14=H∧∃ i p:Nat,x13=i∧x11=p∧n3=s.size-i∧i≤s.size∧p<n∧lg g n s (s.size-i) i p (x8,x9,b10)=lgR g n s,⟨s.size,rfl,rfl,rfl,rfl,rfl,rfl,0,0,rfl,rfl,rfl,by omega,by omega,hR.symm⟩,?_⟩
  rintro n3 a4 n5 n6 s7 x8 x9 b10 x11 x12 x13 H14 ⟨rfl,rfl,rfl,rfl,rfl,rfl,i,p,rfl,rfl,rfl,hi,hp,hl⟩
  refine ⟨fun hlt=>?_,fun hge=>?_⟩
  ·have hlt:i<s7.size:=by have:=of_decide_eq_true hlt; omega
   obtain ⟨r1,r2⟩:=byteAt_rng s7 i
   have hf:s7.size-i=(s7.size-(i+1))+1:=by omega
   rw [hf] at hl
   simp only [lg] at hl
   have hsub:p*257+(byteAt s7 i).toNat<n5*257:=row_lt hp (by omega)
   obtain ⟨x,hx⟩:∃ x,x=g (p*257+(byteAt s7 i).toNat):=⟨_,rfl⟩
   rw [← hx] at hl
   refine ⟨trivial,⟨by omega,by omega⟩,⟨by omega,by omega⟩,b,o,ha,rfl,⟨r1,r2⟩,rfl,x,?_,?_,?_⟩
   ·have:=hld _ hsub
    rw [← hx] at this
    simpa [Nat.add_assoc] using this
   ·intro q
    rw [if_pos (of_decide_eq_true q)] at hl
    rw [← hl] at hQ
    exact hQ
   ·intro q
    have q:=of_decide_eq_false q
    rw [if_neg q] at hl
    refine ⟨fun q2=>?_,fun q2=>?_⟩
    ·rw [if_pos (of_decide_eq_true q2)] at hl
     rw [← hl] at hQ
     exact hQ
    ·have q2:=of_decide_eq_false q2
     rw [if_neg q2] at hl
     have hxn:x.toNat<n5:=by omega
     have hsub2:x.toNat*257+256<n5*257:=row_lt hxn (by omega)
     have hw:IntKind.wrap .i64 ((i:Int)+1)=((i+1:Nat):Int):=by rw [wrap64 (by omega) (by omega)]; omega
     refine ⟨⟨by omega,by omega⟩,b,o,ha,rfl,g (x.toNat*257+256),?_,fun q3=>?_,fun q3=>?_⟩
     ·have:=hld _ hsub2
      simpa [Nat.add_assoc] using this
     ·rw [if_pos (show g (x.toNat*257+256)≠0 from of_decide_eq_true q3)] at hl
      exact ⟨s7.size-(i+1),by omega,rfl,rfl,rfl,rfl,rfl,rfl,i+1,x.toNat,hw,by omega,rfl,by omega,hxn,hl⟩
     ·rw [if_neg (show ¬ (g (x.toNat*257+256)≠0) from of_decide_eq_false q3)] at hl
      exact ⟨s7.size-(i+1),by omega,rfl,rfl,rfl,rfl,rfl,rfl,i+1,x.toNat,hw,by omega,rfl,by omega,hxn,hl⟩
  ·have hge:i=s7.size:=by have:=of_decide_eq_false hge; omega
   rw [hge,Nat.sub_self] at hl
   rw [← hl] at hQ
   exact hQ
end Va
end Go.Proofs.YtfhjkkbaghanhaaGreat
set_option linter.unusedVariables false
set_option linter.unusedSimpArgs false
namespace Go.Ew
open Go.Ev Go.Deep
theorem step_lt {S:List St} {c:Int} {K:List Nat}:∀ x∈stepM S c K,x<S.length:=(clM_spec (moveF_fit K [] (fit_nil _))).1.lt
theorem beg_lt {S:List St}:∀ x∈begM S,x<S.length:=(clM_spec (addS_fit (fit_nil _))).1.lt
structure KsOk (S:List St) (ts:List ByteArray):Prop where
 fst:∃ bs,ts[0]? = some (strB bs)∧Bits S.length bs (begM S)
 way:∀ t∈ts,(∃ bs,t=strB bs∧Bits S.length bs (begM S))∨∃ (b:Nat) (K:List Nat) (bs:List Int),t=strB bs∧Bits S.length bs (stepM S ((b:Nat):Int) K)
 nod:ts.Nodup
theorem KsOk.key {S:List St} {ts:List ByteArray} (h:KsOk S ts) {t:ByteArray} (ht:t∈ts):∃ bs K,t=strB bs∧Bits S.length bs K∧∀ x∈K,x<S.length:=by
 rcases h.way t ht with ⟨bs,h1,h2⟩ | ⟨b,K,bs,h1,h2⟩
 ·exact ⟨bs,_,h1,h2,beg_lt⟩
 ·exact ⟨bs,_,h1,h2,step_lt⟩
theorem KsOk.one {S:List St} {bs:List Int} (h:Bits S.length bs (begM S)):KsOk S [strB bs]:=⟨⟨bs,rfl,h⟩,fun t ht=>.inl ⟨bs,by simpa using ht,h⟩,by simp⟩
theorem KsOk.step {S:List St} {ts ts':List ByteArray} {K:List Nat} {f:Nat→Int} (h:KsOk S ts) (hr:RowC S K ts ts' f 256):KsOk S ts':=by
 obtain ⟨r,hr1,_⟩:=hr.pre
 obtain ⟨bs,h1,h2⟩:=h.fst
 refine ⟨⟨bs,?_,h2⟩,fun t ht=>?_,hr.nod h.nod⟩
 ·have:0<ts.length:=by
   rcases Nat.eq_zero_or_pos ts.length with z | z
   ·rw [List.eq_nil_of_length_eq_zero z] at h1; cases h1
   ·exact z
  rw [hr1,List.getElem?_append_left this]; exact h1
 ·rcases hr.new t ht with z | ⟨b,bs',z1,z2⟩
  ·exact h.way t z
  ·exact .inr ⟨b,K,bs',z1,z2⟩
def mxG (N:Nat) (g:Nat→Int):Nat→Int
 | 0=>0
 | i+1=>mxF (fun b=>g (i*257+b)) N (mxG N g i)
theorem mxG_succ (N:Nat) (g:Nat→Int) (i:Nat):mxG N g (i+1)=mxF (fun b=>g (i*257+b)) N (mxG N g i):=rfl
theorem mxG_congr {N:Nat} {f g:Nat→Int} (hN:N≤257) (n:Nat) (h:∀ j,j<n*257→f j=g j):mxG N f n=mxG N g n:=by
 induction n with
 | zero=>rfl
 | succ n ih =>
   rw [mxG_succ,mxG_succ,ih fun j hj=>h j (Nat.lt_of_lt_of_le hj (Nat.mul_le_mul_right _ (Nat.le_succ n)))]
   exact mxF_congr fun b hb=>h _ (by
    have:(n+1)*257=n*257+257:=Nat.succ_mul n 257
    omega)
structure RowsC (S:List St) (ts:List ByteArray) (g:Nat→Int) (n:Nat):Prop where
 good:∀ (i:Nat) (K:List Nat) (bs:List Int),i<n→ts[i]? = some (strB bs)→Bits S.length bs K→(∀ x∈K,x<S.length)→g (i*257+256)=endM S K∧∀ b,b<256→GoodN S ts (g (i*257+b)) (stepM S ((b:Nat):Int) K)
 up:mxG 256 g n=(ts.length:Int)-1
 ups:∀ i b,i<n→b<256→g (i*257+b)≤mxF (fun b=>g (i*257+b)) b (mxG 256 g i)+1
 ord:∀ i,i<n→(i:Int)≤mxG 256 g i
def catG (g f:Nat→Int) (m:Nat):Nat→Int:=fun j=>if j<m then g j else f (j-m)
theorem RowsC.step {S:List St} {ts ts':List ByteArray} {g f:Nat→Int} {n:Nat} {K:List Nat} {bs:List Int} (h:RowsC S ts g n) (hn:ts[n]? = some (strB bs)) (hb:Bits S.length bs K) (hK:∀ x∈K,x<S.length) (hr:RowC S K ts ts' f 256):RowsC S ts' (catG g f (n*257)) (n+1):=by
 obtain ⟨r,hr1,_⟩:=hr.pre
 have hnl:n<ts.length:=by
  rcases Nat.lt_or_ge n ts.length with z | z
  ·exact z
  ·rw [List.getElem?_eq_none z] at hn; cases hn
 have hlo:∀ j,j<n*257→catG g f (n*257) j=g j:=fun j hj=>by unfold catG; rw [if_pos hj]
 have hhi:∀ b,catG g f (n*257) (n*257+b)=f b:=fun b=>by unfold catG; rw [if_neg (by omega)]; congr 1; omega
 have hlt:∀ i b,i<n→b<257→i*257+b<n*257:=fun i b h1 h2=>by
  have:(i+1)*257≤n*257:=Nat.mul_le_mul_right _ h1
  omega
 have hmx:∀ i,i≤n→mxG 256 (catG g f (n*257)) i=mxG 256 g i:=fun i hi=>mxG_congr (by omega) i fun j hj=>hlo j (Nat.lt_of_lt_of_le hj (Nat.mul_le_mul_right _ hi))
 refine ⟨fun i K' bs' hi h1 h2 h3=>?_,?_,fun i b hi hb'=>?_,fun i hi=>?_⟩
 ·by_cases e:i=n
  ·subst e
   rw [hr1,List.getElem?_append_left hnl,hn] at h1
   have e1:bs=bs':=strB_inj hb.rng h2.rng (Option.some.inj h1)
   subst e1
   have hs:SameS K K':=hb.same h2 hK h3
   refine ⟨by rw [hhi,hr.fin]; exact endM_same hs,fun b hb'=>?_⟩
   rw [hhi]
   exact (hr.good b hb').same (stepM_same hs)
  ·have hi:i<n:=by omega
   rw [hr1,List.getElem?_append_left (by omega)] at h1
   obtain ⟨q1,q2⟩:=h.good i K' bs' hi h1 h2 h3
   refine ⟨by rw [hlo _ (hlt i 256 hi (by omega))]; exact q1,fun b hb'=>?_⟩
   rw [hlo _ (hlt i b hi (by omega)),hr1]
   exact (q2 b hb').app
 ·rw [mxG_succ,hmx n (by omega),h.up,mxF_congr (g:=f) fun b hb'=>hhi b]
  exact hr.up
 ·by_cases e:i=n
  ·subst e
   rw [hhi,hmx i (by omega),h.up,mxF_congr (g:=f) fun k hk=>hhi k]
   exact hr.ups b hb'
  ·have hi:i<n:=by omega
   rw [hlo _ (hlt i b hi (by omega)),hmx i (by omega),mxF_congr (g:=fun b=>g (i*257+b)) fun k hk=>hlo _ (hlt i k hi (by omega))]
   exact h.ups i b hi hb'
 ·rw [hmx i (by omega)]
  by_cases e:i=n
  ·subst e; rw [h.up]; omega
  ·exact h.ord i (by omega)
theorem RowsC.rows {S:List St} {ts:List ByteArray} {g:Nat→Int} (h:RowsC S ts g ts.length) (hk:KsOk S ts):∃ keys:List (List Nat),keys.length=ts.length∧RowsOk S keys g:=by
 have hex:∀ l:List ByteArray,(∀ t∈l,t∈ts)→∃ keys:List (List Nat),keys.length=l.length∧∀ (i:Nat) (K:List Nat),keys[i]? = some K→∃ bs,l[i]? = some (strB bs)∧Bits S.length bs K∧∀ x∈K,x<S.length:=by
  intro l
  induction l with
  | nil=>intro _; exact ⟨[],rfl,fun i K h=>by simp at h⟩
  | cons t l ih =>
    intro hl
    obtain ⟨keys,h1,h2⟩:=ih fun u hu=>hl u (by simp [hu])
    obtain ⟨bs,K,q1,q2,q3⟩:=hk.key (hl t (by simp))
    refine ⟨K :: keys,by simp [h1],fun i K' hi=>?_⟩
    cases i with
    | zero =>
      have hi:K=K':=by simpa using hi
      subst hi
      exact ⟨bs,by simp [q1],q2,q3⟩
    | succ i=>simpa using h2 i K' (by simpa using hi)
 obtain ⟨keys,h1,h2⟩:=hex ts fun t ht=>ht
 have hpos:0<ts.length:=by
  obtain ⟨bs,q,_⟩:=hk.fst
  rcases Nat.eq_zero_or_pos ts.length with z | z
  ·rw [List.eq_nil_of_length_eq_zero z] at q; cases q
  ·exact z
 have hlt:∀ (k:Nat) (K:List Nat),keys[k]? = some K→k<ts.length:=fun k K q=>by
  rcases Nat.lt_or_ge k keys.length with z | z
  ·omega
  ·rw [List.getElem?_eq_none z] at q; cases q
 refine ⟨keys,h1,by omega,fun K hK=>?_,fun k K hK=>?_,fun k K c hK hc hz=>?_,fun k K c hK hc hz=>?_⟩
 ·obtain ⟨bs,q1,q2,q3⟩:=h2 0 K hK
  obtain ⟨bs',p1,p2⟩:=hk.fst
  rw [p1] at q1
  have:=strB_inj p2.rng q2.rng (Option.some.inj q1)
  subst this
  exact q2.same p2 q3 beg_lt
 ·obtain ⟨bs,q1,q2,q3⟩:=h2 k K hK
  exact (h.good k K bs (hlt k K hK) q1 q2 q3).1
 ·obtain ⟨bs,q1,q2,q3⟩:=h2 k K hK
  rcases (h.good k K bs (hlt k K hK) q1 q2 q3).2 c hc with ⟨_,z⟩ | ⟨z,_⟩
  ·rw [z]; omega
  ·exact absurd hz z
 ·obtain ⟨bs,q1,q2,q3⟩:=h2 k K hK
  rcases (h.good k K bs (hlt k K hK) q1 q2 q3).2 c hc with ⟨z,_⟩ | ⟨_,k',bs',z1,z2,z3⟩
  ·exact absurd z hz
  ·have hk':k'<ts.length:=by
    rcases Nat.lt_or_ge k' ts.length with z | z
    ·exact z
    ·rw [List.getElem?_eq_none z] at z2; cases z2
   have e:keys[k']? = some keys[k']:=by simp [h1,hk']
   obtain ⟨bs2,p1,p2,p3⟩:=h2 k' _ e
   rw [z2] at p1
   have:=strB_inj z3.rng p2.rng (Option.some.inj p1)
   subst this
   exact ⟨k',keys[k'],z1,e,p2.same z3 p3 step_lt⟩
abbrev RT:TI:=⟨257,2056,true,3,0,0,[(0,256),(256,1)],List.replicate 257 (.int .i64 0)⟩
theorem Gr.ic {H:KH} {sz n c N:Nat} {a:OA} {g:Nat→Int} {ex:List Value} (h:Gr H sz a n c (intsR .i64 N g) ex):IC H a N g:=by
 cases hn:N with
 | zero=>exact .inl rfl
 | succ m =>
   rw [← hn]
   generalize hcs:intsR .i64 N g=cs at h
   cases h with
   | nil=>have:=congrArg List.length hcs; rw [intsR_len] at this; simp at this; omega
   | on b _ e _ _ h1 h2 h3 h4 h5 h6 =>
     refine .inr ⟨b,0,e,rfl,h1,fun j hj=>?_⟩
     have hl:N=cs.length:=by rw [← hcs,intsR_len]
     refine rd_get h4 j _ ?_
     rw [List.getElem?_append_left (by omega),← hcs,intsR_get,if_pos hj]
end Go.Ew
namespace Go.Proofs.YtfhjkkbaghanhaaGreat
open Go.Ev Go.Ew
namespace Va
section
variable (ok : EnvOk (env Tryz.prog))
include ok
theorem c32 {H:KH} {S:List St} {a:OA} {c:Nat} {Q:PQ}
 (hst:SsN H S a) (hby:ByteS S) (h0:0<S.length) (hS:S.length≤900000) (hfl:∀ x,(stAt S x).free.length≤1000000)
 (hq:∀ w tf BB H' bs,KIn BB H' w S a c tf [strB bs]→Bits S.length bs (begM S)→Le H H'→(∀ b∈BB,H b=none)→(∀ i,i<256→(tf i=true↔TurnP S i))→Q (.pointer (some ⟨w,0,none⟩)) H') :
 Does (env Tryz.prog) 32 [.slice a S.length c] H Q:=by
 refine fn32 ok (c49 ok hst hby hS fun f H2 hle2 hf=>⟨f,rfl,fn50 ok fun n6 h6=>⟨n6,none,0,0,rfl,fun n10 h10=>?_⟩⟩)
 have l6:=Le.new (e:=mpE []) h6
 have l10:=Le.new (e:=mkEnt (Array.toList (List.toArray ([Value.slice a S.length c]++boolsR 256 f++[Value.map (some n6),Value.slice none 0 0]))) 0) h10
 have hne:n10≠n6:=fun z=>by subst z; simp [KH.new] at h10
 refine c51 ok hS fun B H12 p hd hle12 hBf=>⟨p,0,rfl,?_⟩
 refine c52 ok hd hS fun B' H16 hd' hfr=>⟨rfl,?_⟩
 have hkI:KIn [n10,n6] ((H2.new n6 (mpE [])).new n10 (mkEnt (Array.toList (List.toArray ([Value.slice a S.length c]++boolsR 256 f++[Value.map (some n6),Value.slice none 0 0]))) 0)) n10 S a c f []:=by
  refine ⟨n6,none,0,[],⟨⟨_,if_pos rfl,rfl,?_⟩,l10 n6 _ (if_pos rfl),.nil,hne,(fun z=>by cases z),fun z=>by cases z⟩,rfl⟩
  have:=rd_mk ([Value.slice a S.length c]++boolsR 256 f++[Value.map (some n6),Value.slice none 0 0]) 0
  have hl:([Value.slice a S.length c]++boolsR 256 f++[Value.map (some n6),Value.slice none 0 0]).length=259:=by simp [boolsR_len]
  rw [hl] at this
  simpa using this
 have hk12:=hkI.up hle12
 have hBn:∀ b∈[n10,n6],b∉B':=fun b hb hb'=>by
  obtain ⟨e,he⟩:=hk12.known b hb
  obtain ⟨e',he'⟩:=hkI.known b hb
  rcases hfr.nw b hb' with z | z
  ·rw [hBf b z] at he'; cases he'
  ·rw [z] at he; cases he
 have hkp:∀ k e,H k=some e→H16 k=some e:=fun k e q=>by
  have q6:=l10 k e (l6 k e (hle2 k e q))
  exact hfr.kp k e (hle12 k e q6) fun hb=>by rw [hBf k hb] at q6; cases q6
 have hBH:∀ b∈B',H b=none:=fun b hb=>by
  rcases hfr.nw b hb with z | z
  ·exact hle2.none (l6.none (l10.none (hBf b z)))
  ·exact hle2.none (l6.none (l10.none (hle12.none z)))
 have hk16:KIn [n10,n6] H16 n10 S a c f []:=hk12.agree fun k e z1 z2=>hfr.kp k e z2 fun hb=>by
  obtain ⟨e',he'⟩:=hkI.known k z1
  rw [hBf k hb] at he'; cases he'
 have hm:addS S.length [] 0≠[]:=by
  unfold addS
  rw [if_neg (by omega),if_neg (by omega),if_neg (by simp)]
  simp
 refine c53 ok hst hkp hk16 hd' (fun b z1 z2=>hBn b z2 z1) hBH hS hfl (by simp) (fun z=>absurd z hm) fun _ bs k ts' BB' H18 q1 q1b q2 q3 q4 q5=>⟨_,rfl,?_⟩
 have hfin:∀ b∈BB',H b=none:=fun b hb=>by
  rcases q4 b hb with z | z | z
  ·have hn:∀ b∈[n10,n6],H b=none:=fun b hb=>by
    rcases List.mem_cons.1 hb with y | hb
    ·rw [y]; exact hle2.none (l6.none h10)
    ·have:b=n6:=by simpa using hb
     rw [this]; exact hle2.none h6
   exact hn b z
  ·exact hBH b z
  ·rcases none_or H b with y | ⟨e,y⟩
   ·exact y
   ·rw [hkp b e y] at z; cases z
 have hle18:Le H H18:=fun k e q=>q3 k e (hkp k e q) (fun hb=>by
  rcases List.mem_cons.1 hb with y | hb
  ·subst y; rw [hle2.none (l6.none h10)] at q; cases q
  ·have:k=n6:=by simpa using hb
   subst this; rw [hle2.none h6] at q; cases q) fun hb=>by rw [hBH k hb] at q; cases q
 rcases q5 with ⟨_,z⟩ | ⟨rfl,_,_⟩
 ·simp at z
 ·exact hq n10 f BB' H18 bs q2 q1 hle18 hfin hf
theorem c22 {H:KH} {S:List St} {a:OA} {c:Nat} {Q:PQ}
 (hst:SsN H S a) (hby:ByteS S) (h0:0<S.length) (hS:S.length≤900000) (hfl:∀ x,(stAt S x).free.length≤1000000)
 (hq:∀ ra rc ts g H',Le H H'→IC H' ra (ts.length*257) g→KsOk S ts→RowsC S ts g ts.length→ts.length≤300→Q (.slice ra ts.length rc) H')
 (hmany:∀ ts H',Le H H'→KsOk S ts→300<ts.length→Q (.slice none 0 0) H') :
 Does (env Tryz.prog) 22 [.slice a S.length c] H Q:=by
 refine fn22 ok ⟨fun hz=>?_,fun hz=>?_⟩
 ·exfalso
  have:=of_decide_eq_true hz
  omega
 refine c32 ok hst hby h0 hS hfl fun w tf BB H2 bs hkI hbits hle2 hBf htf=>⟨w,0,rfl,?_⟩
 unfold vc22_L1
 refine ⟨fun n3 n4 n5 a6 n7 n8 x9 H10=>n4=w∧n5=0∧∃ (at_:Nat) (g:Nat→Int) (ts:List ByteArray) (BB:List Nat) (ex:List Value),n7=at_∧x9=at_∧n3=301-at_∧at_≤ts.length∧ts.length≤300∧KIn BB H10 w S a c tf ts∧Le H H10∧(∀ b∈BB,H b=none)∧Gr H10 257 a6 at_ n8 (intsR .i64 (at_*257) g) ex∧(∀ b,blk a6=some b→H b=none∧b∉BB)∧KsOk S ts∧RowsC S ts g at_,
  ⟨301,rfl,rfl,rfl,0,fun _=>0,[strB bs],BB,[],rfl,rfl,rfl,by simp,by simp,hkI,hle2,hBf,.nil,(fun b q=>by cases q),KsOk.one hbits,⟨fun i K bs' hi=>by omega,by simp [mxG],fun i b hi=>by omega,fun i hi=>by omega⟩⟩,?_⟩
 rintro n3 n4 n5 a6 n7 n8 x9 H10 ⟨rfl,rfl,i,g,ts,BB,ex,rfl,rfl,rfl,hi,hts,hkI,hle,hBf,hrows,hra,hks,hC⟩
 obtain ⟨mp,ka,kc,kex,hs,hBe⟩:=hkI
 have hkI:KIn BB H10 n4 S a c tf ts:=⟨mp,ka,kc,kex,hs,hBe⟩
 refine ⟨rfl,rfl,ka,_,kc,hs.c258,fun hlt=>?_,fun hge=>?_⟩
 ·have hlt:n7<ts.length:=by have:=of_decide_eq_true hlt; omega
  have e0:Int.toNat ((n7:Nat):Int)=n7:=by omega
  have hti:ts[n7]? = some ts[n7]:=by simp [hlt]
  obtain ⟨b1,o1,z1,r1⟩:=rowAddr hs.row.row (by omega)
  have g1:=r1 (n7*1) 1 (by omega)
  rw [keyC_at hti] at g1
  obtain ⟨bs1,K,k1,k2,k3⟩:=hks.key (List.getElem_mem hlt)
  rw [k1] at g1 hti
  refine ⟨rfl,rfl,ka,_,kc,hs.c258,⟨by omega,by omega⟩,b1,o1,z1,_,by rw [e0]; exact g1,?_⟩
  refine c33 ok hst hle hBf hkI htf hby k2 k3 hS hfl (by omega) fun f ts' BB' H8 hk8 hfr8 hC8=>⟨f,rfl,fun n10 h10 n11 h11=>?_⟩
  have l10:=Le.new (e:=mkEnt (intsR .i64 257 f) 0) h10
  have hraB:∀ b,blk a6=some b→b∉BB':=fun b q hb=>by
   rcases hfr8.nw b hb with z | z
   ·exact (hra b q).2 z
   ·obtain ⟨e,he⟩:=hrows.at' q
    rw [he] at z; cases z
  have hrow8:Gr (H8.new n10 (mkEnt (intsR .i64 257 f) 0)) 257 a6 n7 n8 (intsR .i64 (n7*257) g) ex:=hrows.agree fun k e q1 q2=>l10 k e (hfr8.kp k e q2 (hra k q1).2)
  obtain ⟨a',H',ex',f1,f2,_,f4,f5⟩:=hrow8.append (ti:=RT) (new:=intsR .i64 257 f) h11 (intsR_len _ _ _) (by omega) (by decide) (by decide)
  have hcat:intsR .i64 (n7*257) g++intsR .i64 257 f=intsR .i64 ((n7+1)*257) (catG g f (n7*257)):=by
   rw [intsR_app,Nat.succ_mul]; rfl
  rw [hcat] at f2
  have hk8':∀ k e,k∈BB'→H8 k=some e→H' k=some e:=fun k e q1 q2=>f4 k e (l10 k e q2) fun q=>hraB k q q1
  have hkI':KIn BB' H' n4 S a c tf ts':=hk8.agree hk8'
  obtain ⟨mp',ka',kc',kex',hs',hBe'⟩:=hkI'
  have hkI':KIn BB' H' n4 S a c tf ts':=⟨mp',ka',kc',kex',hs',hBe'⟩
  have hle':Le H H':=fun k e q=>f4 k e (l10 k e (hfr8.kp k e (hle k e q) fun hb=>by rw [hBf k hb] at q; cases q)) fun z=>by rw [(hra k z).1] at q; cases q
  have hks':=hks.step hC8
  have hC':=hC.step hti k2 k3 hC8
  obtain ⟨r,hr1,hr2⟩:=hC8.pre
  have hlen:ts'.length=ts.length+r.length:=by rw [hr1]; simp
  refine ⟨1,_,knew_of (lit_kold (if_pos rfl) (by rw [intsR_len]; rfl)),a',_,unkU,H',f1,rfl,rfl,ka',_,kc',hs'.c258,fun h300=>?_,fun h300=>?_⟩
  ·exact hmany ts' H' hle' hks' (by have:=of_decide_eq_true h300; omega)
  ·have h300:ts'.length≤300:=by have:=of_decide_eq_false h300; omega
   have h11':H8 n11=none:=l10.none h11
   have hnH:∀ b,H8 b=none→H b=none:=fun b q=>by
    rcases none_or H b with y | ⟨e,y⟩
    ·exact y
    ·rw [hfr8.kp b e (hle b e y) fun hb=>by rw [hBf b hb] at y; cases y] at q; cases q
   refine ⟨301-(n7+1),by omega,rfl,rfl,rfl,n7+1,_,ts',BB',ex',rfl,by rw [wrap64 (by omega) (by omega)]; omega,rfl,by omega,h300,hkI',hle',fun b hb=>?_,f2,fun b q=>?_,hks',hC'⟩
   ·rcases hfr8.nw b hb with z | z
    ·exact hBf b z
    ·exact hle.none z
   ·rcases f5 b q with z | z
    ·exact ⟨(hra b z).1,hraB b z⟩
    ·subst z
     refine ⟨hnH _ h11',fun hb=>?_⟩
     obtain ⟨e,he⟩:=hk8.known b hb
     rw [he] at h11'; cases h11'
 ·have hge:n7=ts.length:=by have:=of_decide_eq_false hge; omega
  subst hge
  exact hq a6 n8 ts g H10 hle hrows.ic hks hC hts
end
end Va
end Go.Proofs.YtfhjkkbaghanhaaGreat
