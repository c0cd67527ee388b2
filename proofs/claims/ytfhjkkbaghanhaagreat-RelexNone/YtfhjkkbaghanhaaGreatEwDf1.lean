import Derived.Test.YtfhjkkbaghanhaaGreatEwNt1
import Derived.Test.YtfhjkkbaghanhaaGreatEwPt1
import Derived.Test.YtfhjkkbaghanhaaGreatEwVc6
set_option linter.unusedVariables false
set_option linter.unusedSimpArgs false
namespace Go.Ew
open Go.Ev Go.Deep
def u8C (l:List Int):List Value:=l.map fun x=>.int .u8 x
theorem u8C_len (l:List Int):(u8C l).length=l.length:=by simp [u8C]
theorem u8C_app (a b:List Int):u8C (a++b)=u8C a++u8C b:=by simp [u8C]
theorem u8C_at {l:List Int} {k:Nat} {x:Int} (h:l[k]? = some x):((u8C l).drop (k*1)).take 1=[.int .u8 x]:=dropTake rfl fun j hj=>by
 match j,hj with
 | 0,_=>simp [u8C,h]
structure DrB (H:KH) (p:Nat) (N:Nat) (bs:List Int) (m:List Nat) (bp:Nat) (am:OA) (cm:Nat) (ex:List Value):Prop where
 pt:∃ e,H p=some e∧wrB e=true∧rd e.cells 0 3=some [.int .i64 ((N:Nat):Int),.slice (some ⟨bp,0,none⟩) (N/8+1) (N/8+1),.slice am m.length cm]
 byt:∃ e,H bp=some e∧wrB e=true∧rd e.cells 0 (N/8+1)=some (u8C bs)
 mem:Gr H 1 am m.length cm (natC m) ex
 bits:Bits N bs m
 nod:m.Nodup
 lt:∀ x∈m,x<N
 d1:p≠bp
 d2:blk am≠some p
 d3:blk am≠some bp
section
variable {H : KH} {p N bp : Nat} {bs : List Int} {m : List Nat} {am : OA} {cm : Nat} {ex : List Value}
theorem DrB.c0 (h:DrB H p N bs m bp am cm ex):ld H ⟨p,0+0,none⟩ [.int .i64 ((N:Nat):Int)]:=by
 obtain ⟨e,h1,h2,h3⟩:=h.pt
 have:=ldSub (ld_of h1 h3) 0 1 (by simp)
 simpa using this
theorem DrB.c1 (h:DrB H p N bs m bp am cm ex):ld H ⟨p,0+1,none⟩ [.slice (some ⟨bp,0,none⟩) (N/8+1) (N/8+1)]:=by
 obtain ⟨e,h1,h2,h3⟩:=h.pt
 have:=ldSub (ld_of h1 h3) 1 1 (by simp)
 simpa using this
theorem DrB.c2 (h:DrB H p N bs m bp am cm ex):ld H ⟨p,0+2,none⟩ [.slice am m.length cm]:=by
 obtain ⟨e,h1,h2,h3⟩:=h.pt
 have:=ldSub (ld_of h1 h3) 2 1 (by simp)
 simpa using this
theorem DrB.at_ (h:DrB H p N bs m bp am cm ex) {x:Nat} (hx:x<N):∃ b,bs[x/8]? = some b∧ld H ⟨bp,0+(x/8)*1,none⟩ [.int .u8 b]:=by
 obtain ⟨e,h1,h2,h3⟩:=h.byt
 have hl:x/8<bs.length:=by rw [h.bits.len]; omega
 refine ⟨bs[x/8],by simp [hl],?_⟩
 have:=ldSub (H:=H) (b:=bp) (o:=0) (cs:=u8C bs) ⟨rfl,e,h1,by rw [u8C_len,h.bits.len]; exact h3⟩ ((x/8)*1) 1 (by rw [u8C_len]; omega)
 rwa [u8C_at (show bs[x/8]? = some bs[x/8] by simp [hl])] at this
end
theorem tdiv8 (x:Nat):Int.tdiv ((x:Nat):Int) 8=((x/8:Nat):Int):=by
 rw [Int.tdiv_eq_ediv_of_nonneg (by omega)]; omega
theorem tmod8 (x:Nat):Int.tmod ((x:Nat):Int) 8=((x%8:Nat):Int):=by
 rw [Int.tmod_eq_emod_of_nonneg (by omega)]; omega
end Go.Ew
namespace Go.Proofs.YtfhjkkbaghanhaaGreat
open Go.Ev Go.Ew
namespace Va
section
variable (ok : EnvOk (env Tryz.prog))
include ok
theorem c73 {H:KH} {p N bp:Nat} {bs:List Int} {m:List Nat} {am:OA} {cm:Nat} {ex:List Value} {x:Nat} {Q:PQ} (h:DrB H p N bs m bp am cm ex) (hx:x<N) (hN:N≤900000) (hq:Q (.bool (decide (x∈m))) H):Does (env Tryz.prog) 73 [.pointer (some ⟨p,0,none⟩),.int .i64 ((x:Nat):Int)] H Q:=by
 obtain ⟨b,hb,hld⟩:=h.at_ hx
 have w1:IntKind.wrap .i64 (Int.tdiv ((x:Nat):Int) 8)=((x/8:Nat):Int):=by rw [tdiv8,wrap64 (by omega) (by omega)]
 have e0:Int.toNat ((x/8:Nat):Int)=x/8:=by omega
 have e1:Int.toNat ((x%8:Nat):Int)=x%8:=by omega
 refine fn73 ok ⟨rfl,_,_,_,h.c1,by omega,⟨by rw [w1]; omega,by rw [w1]; omega⟩,bp,0,rfl,b,by rw [w1,e0]; exact hld,by omega,by rw [tmod8]; omega,?_⟩
 rw [tmod8,e1]
 have hi:=h.bits.is (x/8) (x%8) b hb (by omega)
 have e:x/8*8+x%8=x:=by omega
 rw [e] at hi
 have:bitB b (x%8)=decide (x∈m):=by rw [Bool.eq_iff_iff,hi]; simp
 rw [← this] at hq
 exact hq
end
end Va
end Go.Proofs.YtfhjkkbaghanhaaGreat
set_option linter.unusedVariables false
set_option linter.unusedSimpArgs false
namespace Go.Ew
open Go.Ev Go.Deep
def DrIn (B:List Nat) (H:KH) (p:Nat) (m:List Nat) (N:Nat):Prop:=∃ bs bp am cm ex,DrB H p N bs m bp am cm ex∧B=p :: bp :: (blk am).toList
theorem DrIn.known {B:List Nat} {H:KH} {p N:Nat} {m:List Nat} (h:DrIn B H p m N):∀ b∈B,∃ e,H b=some e:=by
 obtain ⟨bs,bp,am,cm,ex,hs,rfl⟩:=h
 intro b hb
 rcases List.mem_cons.1 hb with z | hb
 ·obtain ⟨e,h1,_⟩:=hs.pt; exact ⟨e,by rw [z]; exact h1⟩
 rcases List.mem_cons.1 hb with z | hb
 ·obtain ⟨e,h1,_⟩:=hs.byt; exact ⟨e,by rw [z]; exact h1⟩
 ·have:blk am=some b:=by simpa using hb
  exact hs.mem.at' this
theorem DrIn.agree {B:List Nat} {H H':KH} {p N:Nat} {m:List Nat} (h:DrIn B H p m N) (hk:∀ k e,k∈B→H k=some e→H' k=some e):DrIn B H' p m N:=by
 obtain ⟨bs,bp,am,cm,ex,hs,rfl⟩:=h
 obtain ⟨e1,a1,a2,a3⟩:=hs.pt
 obtain ⟨e2,b1,b2,b3⟩:=hs.byt
 exact ⟨bs,bp,am,cm,ex,⟨⟨e1,hk p e1 (by simp) a1,a2,a3⟩,⟨e2,hk bp e2 (by simp) b1,b2,b3⟩,hs.mem.agree fun k e z1 z2=>hk k e (by simp [z1]) z2,hs.bits,hs.nod,hs.lt,hs.d1,hs.d2,hs.d3⟩,rfl⟩
def strB (bs:List Int):ByteArray:=⟨(bs.map fun n=>UInt8.ofNat n.toNat).toArray⟩
theorem u8_bytes:∀ l:List Int,bytesOfCells (u8C l)=some (l.map fun n=>UInt8.ofNat n.toNat)
 | []=>rfl
 | x :: l=>by
   show (match bytesOfCells (u8C l) with | some r=>some (UInt8.ofNat x.toNat :: r) | none=>none)=_
   rw [u8_bytes l]; rfl
theorem strB_at {bs:List Int} {i:Nat} {b:Int} (h:bs[i]? = some b) (hr:0≤b∧b≤255):byteAt (strB bs) i=b:=by
 unfold byteAt strB
 simp only [List.getElem?_map,h,Option.map_some,Option.getD_some]
 have:(UInt8.ofNat b.toNat).toNat=b.toNat%256:=rfl
 omega
theorem strB_size (bs:List Int):(strB bs).size=bs.length:=by simp [strB,ByteArray.size]
end Go.Ew
namespace Go.Proofs.YtfhjkkbaghanhaaGreat
open Go.Ev Go.Ew
namespace Va
section
variable (ok : EnvOk (env Tryz.prog))
include ok
theorem c76 {B:List Nat} {H:KH} {p N:Nat} {m:List Nat} {Q:PQ} (h:DrIn B H p m N) (hq:∀ bs,Bits N bs m→Q (.agg #[.string (strB bs)]) H):Does (env Tryz.prog) 76 [.pointer (some ⟨p,0,none⟩)] H Q:=by
 obtain ⟨bs,bp,am,cm,ex,hs,rfl⟩:=h
 obtain ⟨e,h1,h2,h3⟩:=hs.byt
 exact fn76 ok ⟨rfl,_,_,_,hs.c1,_,_,kold_some.2 ⟨e,h1,by rw [Nat.mul_one]; exact h3⟩,u8_bytes bs,hq bs hs.bits⟩
theorem c51 {H:KH} {N:Nat} {Q:PQ} (hN:N≤900000) (hq:∀ B H' p,DrIn B H' p [] N→Le H H'→(∀ b∈B,H b=none)→Q (.pointer (some ⟨p,0,none⟩)) H'):Does (env Tryz.prog) 51 [.int .i64 ((N:Nat):Int)] H Q:=by
 have w1:IntKind.wrap .i64 (IntKind.wrap .i64 (Int.tdiv ((N:Nat):Int) 8)+1)=((N/8+1:Nat):Int):=by rw [tdiv8,wrap64 (x:=((N/8:Nat):Int)) (by omega) (by omega),wrap64 (by omega) (by omega)]; omega
 have e0:Int.toNat ((N/8+1:Nat):Int)=N/8+1:=by omega
 refine fn51 ok ⟨by omega,⟨by rw [w1]; omega,Int.le_refl _,by rw [w1]; omega⟩,fun n1 h1 n2 h2=>?_⟩
 rw [w1,e0] at h2 ⊢
 have l1:=Le.new (e:=mkEnt (lrep [.int .u8 0] (N/8+1)) 0) h1
 have l2:=Le.new (e:=mkEnt (Array.toList #[.int .i64 ((N:Nat):Int),.slice (some ⟨n1,0,none⟩) (N/8+1) (N/8+1),.slice none 0 0]) 0) h2
 have hne:n1≠n2:=fun z=>by rw [← z] at h2; simp [KH.new] at h2
 have hrep:∀ n,lrep [Value.int .u8 0] n=u8C (List.replicate n 0):=by
  intro n
  induction n with
  | zero=>rfl
  | succ n ih=>simp only [lrep,ih,List.replicate_succ,u8C,List.map_cons]; rfl
 have hh:∀ cs:List Value,rd (mkEnt cs 0).cells 0 cs.length=some cs:=fun cs=>rd_some rfl fun j v hv=>by rw [Nat.zero_add]; simp only [mkEnt,tget_wr_nil]; exact hv
 refine hq (n2 :: n1 :: (blk (none:OA)).toList) _ n2 ⟨List.replicate (N/8+1) 0,n1,none,0,[],⟨⟨_,if_pos rfl,rfl,hh _⟩,⟨mkEnt (lrep [.int .u8 0] (N/8+1)) 0,l2 n1 _ (if_pos rfl),rfl,?_⟩,.nil,Bits.nil N,List.nodup_nil,(fun x hx=>by cases hx),hne.symm,(fun z=>by cases z),fun z=>by cases z⟩,rfl⟩ (l1.trans l2) fun b hb=>?_
 ·have hl:(u8C (List.replicate (N/8+1) 0)).length=N/8+1:=by simp [u8C]
  have:=hh (u8C (List.replicate (N/8+1) 0))
  rw [hl] at this
  rw [hrep]
  exact this
 ·rcases List.mem_cons.1 hb with z | hb
  ·rw [z]; exact l1.none h2
  ·have:b=n1:=by simpa [blk] using hb
   rw [this]; exact h1
end
end Va
end Go.Proofs.YtfhjkkbaghanhaaGreat
set_option linter.unusedVariables false
set_option linter.unusedSimpArgs false
namespace Go.Proofs.YtfhjkkbaghanhaaGreat
open Go.Ev Go.Ew
namespace Va
section
variable (ok : EnvOk (env Tryz.prog))
include ok
theorem c52 {B:List Nat} {H:KH} {p N:Nat} {m:List Nat} {x:Int} {Q:PQ} (h:DrIn B H p m N) (hN:N≤900000) (hq:∀ B' H',DrIn B' H' p (addS N m x) N→Fr1 B B' H H'→Q (.tuple #[]) H'):Does (env Tryz.prog) 52 [.pointer (some ⟨p,0,none⟩),.int .i64 x] H Q:=by
 have h0:=h
 obtain ⟨bs,bp,am,cm,ex,hs,rfl⟩:=h
 unfold addS at hq
 refine fn52 ok ⟨fun h1=>?_,fun h1=>⟨rfl,_,hs.c0,fun h2=>?_,fun h2=>?_⟩⟩
 ·rw [if_pos (of_decide_eq_true h1)] at hq
  exact hq _ H h0 (Fr1.refl _ _)
 ·rw [if_neg (of_decide_eq_false h1),if_pos (of_decide_eq_true h2)] at hq
  exact hq _ H h0 (Fr1.refl _ _)
 rw [if_neg (of_decide_eq_false h1),if_neg (of_decide_eq_false h2)] at hq
 have h1:=of_decide_eq_false h1
 have h2:=of_decide_eq_false h2
 obtain ⟨y,rfl⟩:∃ y:Nat,x=y:=⟨x.toNat,by omega⟩
 have hy:y<N:=by omega
 have e0:Int.toNat ((y:Nat):Int)=y:=by omega
 rw [e0] at hq
 refine c73 ok hs hy hN ⟨_,rfl,fun h3=>?_,fun h3=>?_⟩
 ·rw [if_pos (of_decide_eq_true h3)] at hq
  exact hq _ H h0 (Fr1.refl _ _)
 have h3:=of_decide_eq_false h3
 rw [if_neg h3] at hq
 have hml:=nodup_le N m hs.nod hs.lt
 obtain ⟨b,hb,hld⟩:=hs.at_ hy
 have hbl:y/8<bs.length:=by rw [hs.bits.len]; omega
 obtain ⟨ep,p1,p2,p3⟩:=hs.byt
 obtain ⟨eq,q1,q2,q3⟩:=hs.pt
 have w1:IntKind.wrap .i64 (Int.tdiv ((y:Nat):Int) 8)=((y/8:Nat):Int):=by rw [tdiv8,wrap64 (by omega) (by omega)]
 have e8:Int.toNat ((y/8:Nat):Int)=y/8:=by omega
 have e9:Int.toNat ((y%8:Nat):Int)=y%8:=by omega
 rw [w1,tmod8,e8,e9]
 have hH1q:(H.put ⟨bp,0+y/8*1,none⟩ [.int .u8 (setB b (y%8))]) p=some eq:=put_ne hs.d1 q1
 have hc0':ld (H.put ⟨bp,0+y/8*1,none⟩ [.int .u8 (setB b (y%8))]) ⟨p,0+2,none⟩ [.slice am m.length cm]:=by
  have:=ldSub (ld_of hH1q q3) 2 1 (by simp)
  simpa using this
 refine ⟨trivial,rfl,_,_,_,hs.c1,by omega,⟨by omega,by omega⟩,bp,0,rfl,b,hld,by omega,by omega,⟨by omega,by omega⟩,bp,0,rfl,stOk hld rfl,⟨ep,p1,p2⟩,trivial,rfl,am,_,cm,hc0',fun n13 h13 n14 h14=>?_⟩
 have h13:(H.put ⟨bp,0+y/8*1,none⟩ [.int .u8 (setB b (y%8))]) n13=none:=h13
 have h14:((H.put ⟨bp,0+y/8*1,none⟩ [.int .u8 (setB b (y%8))]).new n13 (mkEnt [.int .i64 ((y:Nat):Int)] 0)) n14=none:=h14
 have l13:=Le.new (e:=mkEnt [.int .i64 ((y:Nat):Int)] 0) h13
 have hmem:Gr ((H.put ⟨bp,0+y/8*1,none⟩ [.int .u8 (setB b (y%8))]).new n13 (mkEnt [.int .i64 ((y:Nat):Int)] 0)) 1 am m.length cm (natC m) ex:=hs.mem.agree fun k e z1 z2=>l13 k e (put_ne (fun z=>hs.d3 (by rw [z1,z])) z2)
 obtain ⟨a',H',ex',f1,f2,_,f4,f5⟩:=hmem.append (ti:=IT1) (new:=[.int .i64 ((y:Nat):Int)]) h14 rfl (by omega) (by decide) (by decide)
 have h14':(H.put ⟨bp,0+y/8*1,none⟩ [.int .u8 (setB b (y%8))]) n14=none:=l13.none h14
 have h14'':H n14=none:=by
  rcases none_or H n14 with z | ⟨e,z⟩
  ·exact z
  ·by_cases hb:n14=bp
   ·rw [hb] at h14'
    simp only [KH.put,if_true,p1,Option.map_some] at h14'; cases h14'
   ·rw [put_ne hb z] at h14'; cases h14'
 have kp1:∀ k e,H k=some e→k≠bp→blk am≠some k→H' k=some e:=fun k e z1 z2 z3=>f4 k e (l13 k e (put_ne z2 z1)) z3
 have hq':H' p=some eq:=kp1 p eq q1 hs.d1 hs.d2
 have hp':H' bp=some ⟨wr ep.cells (0+y/8*1) [.int .u8 (setB b (y%8))],ep.len,ep.unk,none⟩:=f4 bp _ (l13 bp _ (by simp only [KH.put,if_true,p1,Option.map_some])) hs.d3
 have ha':∀ b,blk a'=some b→b≠p∧b≠bp∧(blk am=some b∨H b=none):=fun b z=>by
  rcases f5 b z with u | u
  ·exact ⟨fun v=>hs.d2 (by rw [u,v]),fun v=>hs.d3 (by rw [u,v]),.inl u⟩
  ·subst u
   exact ⟨fun v=>(by rw [v,q1] at h14''; cases h14''),fun v=>(by rw [v,p1] at h14''; cases h14''),.inr h14''⟩
 have hw2:ld H' ⟨p,0+2,none⟩ [.slice am m.length cm]:=by
  have:=ldSub (ld_of hq' q3) 2 1 (by simp)
  simpa using this
 refine ⟨1,_,knew_of (lit_kold (if_pos rfl) rfl),a',_,_,H',f1,rfl,stOk hw2 rfl,⟨eq,hq',q2⟩,?_⟩
 refine hq (p :: bp :: (blk a').toList) _ ⟨bs.set (y/8) (setB b (y%8)),bp,a',unkU,ex',⟨⟨⟨wr eq.cells (0+2) [.slice a' (m.length+1) unkU],eq.len,eq.unk,none⟩,by simp only [KH.put,if_true,hq',Option.map_some],wrB_keep q2,?_⟩,⟨_,put_ne hs.d1.symm hp',wrB_keep p2,?_⟩,?_,hs.bits.add hy hb,?_,?_,hs.d1,fun z=>(ha' p z).1 rfl,fun z=>(ha' bp z).2.1 rfl⟩,rfl⟩ ⟨fun k e z1 z2=>?_,fun b z=>?_⟩
 ·have hl:(m++[y]).length=m.length+1:=by simp
  rw [hl]
  have:=rdWr (e:=eq.cells) (N:=3) (o:=0+2) (xs:=[.int .i64 ((N:Nat):Int),.slice (some ⟨bp,0,none⟩) (N/8+1) (N/8+1)]) (ys:=[.slice am m.length cm]) (zs:=[]) (vs:=[.slice a' (m.length+1) unkU]) (by simpa using q3) rfl rfl
  simpa using this
 ·have hsp:u8C bs=u8C (bs.take (y/8))++[.int .u8 bs[y/8]]++u8C (bs.drop (y/8+1)):=by
   have:bs=bs.take (y/8)++[bs[y/8]]++bs.drop (y/8+1):=by
    rw [List.append_assoc]
    have h2:[bs[y/8]]++bs.drop (y/8+1)=bs.drop (y/8):=by rw [List.drop_eq_getElem_cons hbl]; rfl
    rw [h2,List.take_append_drop]
   have h3:=congrArg u8C this
   rw [u8C_app,u8C_app] at h3
   exact h3
  have hst:u8C (bs.set (y/8) (setB b (y%8)))=u8C (bs.take (y/8))++[.int .u8 (setB b (y%8))]++u8C (bs.drop (y/8+1)):=by
   rw [List.set_eq_take_append_cons_drop,if_pos hbl]
   simp [u8C]
  rw [hst]
  exact rdWr (ys:=[.int .u8 bs[y/8]]) (by rw [p3,hsp]) (by rw [u8C_len,List.length_take]; omega) rfl
 ·have hl:(m++[y]).length=m.length+1:=by simp
  have hn:natC (m++[y])=natC m++[.int .i64 ((y:Nat):Int)]:=by simp [natC]
  rw [hl,hn]
  exact f2.agree fun k e z1 z2=>put_ne (fun z=>(ha' k z1).1 z) z2
 ·rw [List.nodup_append]
  exact ⟨hs.nod,by simp,fun a z1 b z2 z3=>by
   have z2:b=y:=by simpa using z2
   exact h3 (by rw [← z2,← z3]; exact z1)⟩
 ·intro z hz
  rcases List.mem_append.1 hz with hz | hz
  ·exact hs.lt z hz
  ·have:z=y:=by simpa using hz
   rw [this]; exact hy
 ·have n1:k≠p:=fun u=>z2 (by simp [u])
  have n2:k≠bp:=fun u=>z2 (by simp [u])
  have n3:blk am≠some k:=fun u=>z2 (by simp [u])
  exact put_ne n1 (kp1 k e z1 n2 n3)
 ·rcases List.mem_cons.1 z with u | z
  ·exact .inl (by simp [u])
  rcases List.mem_cons.1 z with u | z
  ·exact .inl (by simp [u])
  ·have z:blk a'=some b:=by simpa using z
   rcases (ha' b z).2.2 with v | v
   ·exact .inl (by simp [v])
   ·exact .inr v
end
end Va
end Go.Proofs.YtfhjkkbaghanhaaGreat
set_option linter.unusedVariables false
set_option linter.unusedSimpArgs false
namespace Go.Ew
open Go.Ev Go.Deep
structure BdS (X:KH) (w:Nat) (S:List St) (a:OA) (c:Nat):Prop where
 st:SsN X S a
 wc:∀ H',Le X H'→ld H' ⟨w,0+0,none⟩ [.slice a S.length c]
theorem BdS.state {X:KH} {w c:Nat} {S:List St} {a:OA} (h:BdS X w S a c) {x:Nat} (hx:x<S.length):∃ b o af cf,a=some ⟨b,o,none⟩∧(∀ H',Le X H'→ld H' ⟨b,o+x*5,none⟩ (stC (stAt S x) af cf))∧kold X 1 af (stAt S x).free.length=some (inC (stAt S x).free):=by
 obtain ⟨cs,h1,h2⟩:=h.st
 obtain ⟨b,o,e,r⟩:=rowAddr h1 (by omega)
 have hs:S[x]? = some (stAt S x):=by unfold stAt; simp [hx]
 obtain ⟨af,cf,g1,g2⟩:=h2.get hs
 have:=r (x*5) 5 (by omega)
 rw [g1] at this
 exact ⟨b,o,af,cf,e,fun H' hl=>hl.ld this,g2⟩
structure DrW (X H:KH) (B:List Nat) (p N:Nat) (m:List Nat):Prop where
 le:Le X H
 dr:DrIn B H p m N
 out:∀ b∈B,X b=none
theorem DrW.step {X H H':KH} {B B':List Nat} {p N:Nat} {m m':List Nat} (h:DrW X H B p N m) (hd:DrIn B' H' p m' N) (hf:Fr1 B B' H H'):DrW X H' B' p N m':=by
 refine ⟨fun k e q=>hf.kp k e (h.le k e q) fun z=>?_,hd,fun b hb=>?_⟩
 ·rw [h.out k z] at q; cases q
 ·rcases hf.nw b hb with z | z
  ·exact h.out b z
  ·exact h.le.none z
end Go.Ew
namespace Go.Proofs.YtfhjkkbaghanhaaGreat
open Go.Ev Go.Ew
namespace Va
section
variable (ok : EnvOk (env Tryz.prog))
include ok
theorem l74 {X H:KH} {w p:Nat} {S:List St} {B m:List Nat} {f:List Int} {af:OA} {cf i M:Nat} {I:Nat→Nat→Nat→Nat→Nat→Int→KH→Prop} (h:DrW X H B p S.length m) (hf:kold X 1 af f.length=some (inC f)) (hS:S.length≤900000) (hfl:f.length≤1000000)
 (hI:∀ H' B',DrW X H' B' p S.length (f.foldl (addS S.length) m)→∃ n13,n13<M∧(none:Option Nat)=none∧(none:Option Nat)=none∧I n13 w 0 p 0 (IntKind.wrap .i64 (((i:Nat):Int)+1)) H'):vc74_L1 w 0 p 0 ((i:Nat):Int) af f.length cf H M I:=by
 unfold vc74_L1
 refine ⟨fun n3 n4 n5 n6 n7 x8 a9 n10 n11 x12 x13 H14=>n4=w∧n5=0∧n6=p∧n7=0∧x8=(i:Nat)∧a9=af∧n10=f.length∧x12=(f.length:Nat)∧∃ (k:Nat) (B':List Nat),x13=k∧k≤f.length∧n3=f.length-k∧DrW X H14 B' p S.length ((f.take k).foldl (addS S.length) m),⟨f.length,rfl,rfl,rfl,rfl,rfl,rfl,rfl,rfl,rfl,rfl,0,B,rfl,by omega,rfl,by simpa using h⟩,?_⟩
 rintro n3 n4 n5 n6 n7 x8 a9 n10 n11 x12 x13 H14 ⟨rfl,rfl,rfl,rfl,rfl,rfl,rfl,rfl,k,B',rfl,hk,rfl,hW⟩
 refine ⟨fun hlt=>?_,fun hge=>?_⟩
 ·have hlt:k<f.length:=by have:=of_decide_eq_true hlt; omega
  have e0:Int.toNat ((k:Nat):Int)=k:=by omega
  obtain ⟨b1,o1,e1,r1⟩:=rowAddr (hW.le.kold hf) (by omega)
  have g1:=r1 (k*1) 1 (by omega)
  rw [inC_at (show f[k]? = some f[k] by simp [hlt])] at g1
  rw [e0]
  refine ⟨⟨by omega,by omega⟩,b1,o1,e1,_,g1,c52 ok hW.dr hS fun B2 H' hs hfr=>⟨rfl,f.length-(k+1),by omega,rfl,rfl,rfl,rfl,rfl,rfl,rfl,rfl,rfl,rfl,k+1,B2,by rw [wrap64 (by omega) (by omega)]; omega,by omega,rfl,?_⟩⟩
  rw [List.take_succ_eq_append_getElem hlt,List.foldl_append]
  exact hW.step hs hfr
 ·have hge:k=f.length:=by have:=of_decide_eq_false hge; omega
  subst hge
  rw [List.take_length] at hW
  exact hI H14 B' hW
theorem c74 {X H:KH} {w p:Nat} {S:List St} {a:OA} {c:Nat} {B m:List Nat} {Q:PQ} (hb:BdS X w S a c) (h:DrW X H B p S.length m) (hS:S.length≤900000) (hfl:∀ x,(stAt S x).free.length≤1000000)
 (hq:∀ H' B',DrW X H' B' p S.length (clM S m)→Q (.tuple #[]) H'):Does (env Tryz.prog) 74 [.pointer (some ⟨w,0,none⟩),.pointer (some ⟨p,0,none⟩)] H Q:=by
 refine fn74 ok ?_
 unfold vc74 vc74_L3
 refine ⟨fun n3 n4 n5 n6 n7 x8 H9=>n4=w∧n5=0∧n6=p∧n7=0∧∃ (i:Nat) (B' m':List Nat),x8=i∧i≤S.length∧n3=S.length+1-i∧DrW X H9 B' p S.length m'∧spM S (S.length+1-i) i m'=clM S m,⟨S.length+1,rfl,rfl,rfl,rfl,rfl,rfl,0,B,m,rfl,by omega,rfl,h,rfl⟩,?_⟩
 rintro n3 n4 n5 n6 n7 x8 H9 ⟨rfl,rfl,rfl,rfl,i,B',m',rfl,hi,rfl,hW,hm⟩
 obtain ⟨bs,bp,am,cm,ex,hs,hB1⟩:=hW.dr
 have hml:=nodup_le _ m' hs.nod hs.lt
 obtain ⟨f,hf⟩:∃ f,S.length+1-i=f+1:=⟨S.length-i,by omega⟩
 rw [hf,spM] at hm
 refine ⟨rfl,am,_,cm,hs.c2,fun hlt=>?_,fun hge=>?_⟩
 ·have hlt:i<m'.length:=by have:=of_decide_eq_true hlt; omega
  have hmi:m'[i]? = some m'[i]:=by simp [hlt]
  rw [hmi] at hm
  have hx:=hs.lt m'[i] (List.getElem_mem hlt)
  have e0:Int.toNat ((i:Nat):Int)=i:=by omega
  have e1:Int.toNat ((m'[i]:Nat):Int)=m'[i]:=by omega
  obtain ⟨b1,o1,z1,r1⟩:=rowAddr hs.mem.row (by omega)
  have g1:=r1 (i*1) 1 (by omega)
  rw [natC_at hmi] at g1
  obtain ⟨b2,o2,af,cf,z2,hst,hfr⟩:=hb.state hx
  refine ⟨trivial,rfl,a,_,c,hb.wc H9 hW.le,rfl,am,_,cm,hs.c2,⟨by omega,by omega⟩,b1,o1,z1,_,by rw [e0]; exact g1,⟨by omega,by omega⟩,b2,o2,z2,rfl,af,_,cf,by rw [e1]; exact stC_ld3 (hst H9 hW.le),?_⟩
  refine l74 ok hW hfr hS (hfl _) fun H' B2 hW'=>⟨S.length-i,by omega,rfl,rfl,rfl,rfl,rfl,rfl,i+1,B2,_,by rw [wrap64 (by omega) (by omega)]; omega,by omega,by omega,hW',?_⟩
  have:S.length+1-(i+1)=f:=by omega
  rw [this]
  exact hm
 ·have hge:m'.length≤i:=by have:=of_decide_eq_false hge; omega
  rw [List.getElem?_eq_none hge] at hm
  have hm:m'=clM S m:=hm
  subst hm
  exact hq H9 B' hW
end
end Va
end Go.Proofs.YtfhjkkbaghanhaaGreat
set_option linter.unusedVariables false
set_option linter.unusedSimpArgs false
namespace Go.Proofs.YtfhjkkbaghanhaaGreat
open Go.Ev Go.Ew
namespace Va
section
variable (ok : EnvOk (env Tryz.prog))
include ok
theorem c56 {X H:KH} {w:Nat} {S:List St} {a am:OA} {c cm:Nat} {K:List Nat} {ch:Int} {Q:PQ} (hb:BdS X w S a c) (hX:Le X H) (hK:kold X 1 am K.length=some (natC K)) (hlt:∀ x∈K,x<S.length) (hS:S.length≤900000) (hKl:K.length≤1000000)
 (hq:∀ H' B p,DrW X H' B p S.length (K.foldl (moveM S ch) [])→Le H H'→(∀ b∈B,H b=none)→Q (.pointer (some ⟨p,0,none⟩)) H'):Does (env Tryz.prog) 56 [.pointer (some ⟨w,0,none⟩),.slice am K.length cm,.int .u8 ch] H Q:=by
 refine fn56 ok ⟨rfl,a,_,c,hb.wc H hX,c51 ok hS fun B H5 p hd hl5 hout=>⟨p,0,rfl,?_⟩⟩
 unfold vc56_L1
 have h0:DrW H H5 B p S.length []:=⟨hl5,hd,hout⟩
 refine ⟨fun n3 n4 n5 x6 n7 n8 a9 n10 n11 x12 x13 H14=>n4=w∧n5=0∧x6=ch∧n7=p∧n8=0∧a9=am∧n10=K.length∧x12=(K.length:Nat)∧∃ (k:Nat) (B':List Nat),x13=k∧k≤K.length∧n3=K.length-k∧DrW H H14 B' p S.length ((K.take k).foldl (moveM S ch) []),⟨K.length,rfl,rfl,rfl,rfl,rfl,rfl,rfl,rfl,rfl,rfl,0,B,rfl,by omega,rfl,by simpa using h0⟩,?_⟩
 rintro n3 n4 n5 x6 n7 n8 a9 n10 n11 x12 x13 H14 ⟨rfl,rfl,rfl,rfl,rfl,rfl,rfl,rfl,k,B',rfl,hk,rfl,hW⟩
 refine ⟨fun hlt2=>?_,fun hge=>?_⟩
 ·have hlt2:k<K.length:=by have:=of_decide_eq_true hlt2; omega
  have e0:Int.toNat ((k:Nat):Int)=k:=by omega
  have e1:Int.toNat ((K[k]:Nat):Int)=K[k]:=by omega
  have hx:=hlt K[k] (List.getElem_mem hlt2)
  have hle:=hX.trans hW.le
  obtain ⟨b1,o1,z1,r1⟩:=rowAddr (hle.kold hK) (by omega)
  have g1:=r1 (k*1) 1 (by omega)
  rw [natC_at (show K[k]? = some K[k] by simp [hlt2])] at g1
  obtain ⟨b2,o2,af,cf,z2,hst,hfr⟩:=hb.state hx
  have wk:IntKind.wrap .i64 (((k:Nat):Int)+1)=((k+1:Nat):Int):=by rw [wrap64 (by omega) (by omega)]; omega
  have nxt:∀ {B2:List Nat} {H2:KH},DrW H H2 B2 n7 S.length (moveM S x6 ((K.take k).foldl (moveM S x6) []) K[k])→DrW H H2 B2 n7 S.length ((K.take (k+1)).foldl (moveM S x6) []):=fun h=>by
   rw [List.take_succ_eq_append_getElem hlt2,List.foldl_append]
   exact h
  rw [e0,wk]
  refine ⟨⟨by omega,by omega⟩,b1,o1,z1,_,g1,rfl,a,_,c,hb.wc H14 hle,⟨by omega,by omega⟩,b2,o2,z2,(stAt S K[k]).lo,(stAt S K[k]).hi,(stAt S K[k]).next,af,_,cf,(stAt S K[k]).e,by rw [e1]; exact hst H14 hle,fun q1=>⟨fun q2=>?_,fun q2=>?_⟩,fun q1=>?_⟩
  ·have q1:=of_decide_eq_true q1
   have q2:=of_decide_eq_true q2
   refine c52 ok hW.dr hS fun B2 H2 hs hfr=>⟨rfl,K.length-(k+1),by omega,rfl,rfl,rfl,rfl,rfl,rfl,rfl,rfl,rfl,rfl,k+1,B2,rfl,by omega,rfl,nxt ?_⟩
   unfold moveM
   rw [if_pos ⟨q1,q2⟩]
   exact hW.step hs hfr
  ·have q2:=of_decide_eq_false q2
   refine ⟨K.length-(k+1),by omega,rfl,rfl,rfl,rfl,rfl,rfl,rfl,rfl,rfl,rfl,k+1,B',rfl,by omega,rfl,nxt ?_⟩
   unfold moveM
   rw [if_neg fun z=>q2 z.2]
   exact hW
  ·have q1:=of_decide_eq_false q1
   refine ⟨K.length-(k+1),by omega,rfl,rfl,rfl,rfl,rfl,rfl,rfl,rfl,rfl,rfl,k+1,B',rfl,by omega,rfl,nxt ?_⟩
   unfold moveM
   rw [if_neg fun z=>q1 z.1]
   exact hW
 ·have hge:k=K.length:=by have:=of_decide_eq_false hge; omega
  subst hge
  rw [List.take_length] at hW
  exact hq H14 B' n7 ⟨hX.trans hW.le,hW.dr,fun b hb=>hX.none (hW.out b hb)⟩ hW.le hW.out
end
end Va
end Go.Proofs.YtfhjkkbaghanhaaGreat
set_option linter.unusedVariables false
set_option linter.unusedSimpArgs false
namespace Go.Proofs.YtfhjkkbaghanhaaGreat
open Go.Ev Go.Ew
namespace Va
section
variable (ok : EnvOk (env Tryz.prog))
include ok
theorem c55 {X H:KH} {w:Nat} {S:List St} {a am:OA} {c cm:Nat} {K:List Nat} {Q:PQ} (hb:BdS X w S a c) (hX:Le X H) (hK:kold X 1 am K.length=some (natC K)) (hlt:∀ x∈K,x<S.length) (hS:S.length≤900000) (hKl:K.length≤1000000)
 (hq:Q (.int .i64 (endM S K)) H):Does (env Tryz.prog) 55 [.pointer (some ⟨w,0,none⟩),.slice am K.length cm] H Q:=by
 refine fn55 ok ?_
 unfold vc55 vc55_L1
 refine ⟨fun n3 n4 n5 x6 a7 n8 n9 x10 x11 H12=>n4=w∧n5=0∧a7=am∧n8=K.length∧x10=(K.length:Nat)∧H12=H∧∃ k:Nat,x11=k∧k≤K.length∧n3=K.length-k∧x6=(K.take k).foldl (leastM S) 0,⟨K.length,rfl,rfl,rfl,rfl,rfl,rfl,rfl,0,rfl,by omega,rfl,by simp⟩,?_⟩
 rintro n3 n4 n5 x6 a7 n8 n9 x10 x11 H12 ⟨rfl,rfl,rfl,rfl,rfl,rfl,k,rfl,hk,rfl,rfl⟩
 refine ⟨fun hl2=>?_,fun hge=>?_⟩
 ·have hl2:k<K.length:=by have:=of_decide_eq_true hl2; omega
  have hmi:K[k]? = some K[k]:=by simp [hl2]
  have hx:=hlt K[k] (List.getElem_mem hl2)
  have e0:Int.toNat ((k:Nat):Int)=k:=by omega
  have e1:Int.toNat ((K[k]:Nat):Int)=K[k]:=by omega
  obtain ⟨b1,o1,z1,r1⟩:=rowAddr (hX.kold hK) (by omega)
  have g1:=r1 (k*1) 1 (by omega)
  rw [natC_at hmi] at g1
  obtain ⟨b2,o2,af,cf,z2,hst,hfr⟩:=hb.state hx
  have hnext:(K.take (k+1)).foldl (leastM S) 0=leastM S ((K.take k).foldl (leastM S) 0) K[k]:=by
   rw [List.take_succ_eq_append_getElem hl2,List.foldl_append]; rfl
  generalize hy0:(K.take k).foldl (leastM S) 0=y0 at *
  have go:∀ y,leastM S y0 K[k]=y→∃ n10,n10<K.length-k∧(none:Option Nat)=none∧(n4=n4∧0=0∧a7=a7∧K.length=K.length∧((K.length:Nat):Int)=(K.length:Nat)∧H12=H12∧∃ k_1:Nat,IntKind.wrap .i64 (((k:Nat):Int)+1)=k_1∧k_1≤K.length∧n10=K.length-k_1∧y=(K.take k_1).foldl (leastM S) 0):=fun y hy=>⟨K.length-(k+1),by omega,rfl,rfl,rfl,rfl,rfl,rfl,rfl,k+1,by rw [wrap64 (by omega) (by omega)]; omega,by omega,rfl,by rw [hnext,hy]⟩
  refine ⟨⟨by omega,by omega⟩,b1,o1,z1,_,by rw [e0]; exact g1,rfl,a,_,c,hb.wc H12 hX,⟨by omega,by omega⟩,b2,o2,z2,rfl,_,by rw [e1]; exact stC_ld4 (hst H12 hX),fun t1=>⟨fun t2=>?_,fun t2=>⟨fun t3=>?_,fun t3=>?_⟩⟩,fun t1=>?_⟩
  ·refine go _ ?_
   unfold leastM
   rw [if_pos (of_decide_eq_true t1),if_pos (of_decide_eq_true t2)]
  ·refine go _ ?_
   unfold leastM
   rw [if_pos (of_decide_eq_true t1),if_neg (of_decide_eq_false t2),if_pos (of_decide_eq_true t3)]
  ·refine go _ ?_
   unfold leastM
   rw [if_pos (of_decide_eq_true t1),if_neg (of_decide_eq_false t2),if_neg (of_decide_eq_false t3)]
  ·refine go _ ?_
   unfold leastM
   rw [if_neg (of_decide_eq_false t1)]
 ·have hge:k=K.length:=by have:=of_decide_eq_false hge; omega
  subst hge
  rw [List.take_length]
  exact hq
end
end Va
end Go.Proofs.YtfhjkkbaghanhaaGreat
