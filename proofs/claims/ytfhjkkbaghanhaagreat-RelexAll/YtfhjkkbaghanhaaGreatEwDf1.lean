import Derived.Test.YtfhjkkbaghanhaaGreatEwPt1
import Derived.Test.YtfhjkkbaghanhaaGreatEwS4
import Derived.Test.YtfhjkkbaghanhaaGreatEwS1
import Derived.Test.YtfhjkkbaghanhaaGreatEwVc2
set_option linter.unusedVariables false
set_option linter.unusedSimpArgs false
namespace Go.Ew
open Go.Ev Go.Deep
def u8C (l:List Int):List Value:=l.map fun x=>.int .u8 x
theorem u8C_len (l:List Int):(u8C l).length=l.length:=by simp [u8C]
theorem u8C_app (a b:List Int):u8C (a++b)=u8C a++u8C b:=by simp [u8C]
theorem u8C_at {l:List Int} {k:Nat} {x:Int} (h:l[k]? = some x):((u8C l).drop (k*1)).take 1=[.int .u8 x]:=dropTake rfl fun j hj=>by
 match j,hj with
 | 0,_=>simp [u8C,h]
structure DrB (H:KH) (p:Nat) (N:Nat) (bs:List Int) (m:List Nat) (bp:Nat) (am:OA) (cm:Nat) (ex:List Value):Prop where
 pt:∃ e,H p=some e/\wrB e=true/\rd e.cells 0 3=some [.int .i64 ((N:Nat):Int),.slice (some ⟨bp,0,none⟩) (N/8+1) (N/8+1),.slice am m.length cm]
 byt:∃ e,H bp=some e/\wrB e=true/\rd e.cells 0 (N/8+1)=some (u8C bs)
 mem:Gr H 1 am m.length cm (natC m) ex
 bits:Bits N bs m
 nod:m.Nodup
 lt:∀ x∈m,x<N
 d1:p≠bp
 d2:blk am≠some p
 d3:blk am≠some bp
section
variable {H : KH} {p N bp : Nat} {bs : List Int} {m : List Nat} {am : OA} {cm : Nat} {ex : List Value}
theorem DrB.c0 (h:DrB H p N bs m bp am cm ex):ld H ⟨p,0+0,none⟩ [.int .i64 ((N:Nat):Int)]:=by
 obtain ⟨e,h1,h2,h3⟩:=h.pt
 have:=ldSub (ld_of h1 h3) 0 1 (by simp)
 simpa using this
theorem DrB.c1 (h:DrB H p N bs m bp am cm ex):ld H ⟨p,0+1,none⟩ [.slice (some ⟨bp,0,none⟩) (N/8+1) (N/8+1)]:=by
 obtain ⟨e,h1,h2,h3⟩:=h.pt
 have:=ldSub (ld_of h1 h3) 1 1 (by simp)
 simpa using this
theorem DrB.c2 (h:DrB H p N bs m bp am cm ex):ld H ⟨p,0+2,none⟩ [.slice am m.length cm]:=by
 obtain ⟨e,h1,h2,h3⟩:=h.pt
 have:=ldSub (ld_of h1 h3) 2 1 (by simp)
 simpa using this
theorem DrB.at_ (h:DrB H p N bs m bp am cm ex) {x:Nat} (hx:x<N):∃ b,bs[x/8]? = some b/\ld H ⟨bp,0+(x/8)*1,none⟩ [.int .u8 b]:=by
 obtain ⟨e,h1,h2,h3⟩:=h.byt
 have hl:x/8<bs.length:=by rw [h.bits.len]; omega
 refine ⟨bs[x/8],by simp [hl],?_⟩
 have:=ldSub (H:=H) (b:=bp) (o:=0) (cs:=u8C bs) ⟨rfl,e,h1,by rw [u8C_len,h.bits.len]; exact h3⟩ ((x/8)*1) 1 (by rw [u8C_len]; omega)
 rwa [u8C_at (show bs[x/8]? = some bs[x/8] by simp [hl])] at this
end
theorem tdiv8 (x:Nat):Int.tdiv ((x:Nat):Int) 8=((x/8:Nat):Int):=by
 rw [Int.tdiv_eq_ediv_of_nonneg (by omega)]; omega
theorem tmod8 (x:Nat):Int.tmod ((x:Nat):Int) 8=((x%8:Nat):Int):=by
 rw [Int.tmod_eq_emod_of_nonneg (by omega)]; omega
end Go.Ew
namespace Go.Proofs.YtfhjkkbaghanhaaGreat
open Go.Ev Go.Ew
namespace Va
section
variable (ok : EnvOk (env Tryz.prog))
include ok
theorem c73 {H:KH} {p N bp:Nat} {bs:List Int} {m:List Nat} {am:OA} {cm:Nat} {ex:List Value} {x:Nat} {Q:PQ} (h:DrB H p N bs m bp am cm ex) (hx:x<N) (hN:N<=900000) (hq:Q (.bool (decide (x∈m))) H):Does (env Tryz.prog) 73 [.pointer (some ⟨p,0,none⟩),.int .i64 ((x:Nat):Int)] H Q:=by
 obtain ⟨b,hb,hld⟩:=h.at_ hx
 have w1:IntKind.wrap .i64 (Int.tdiv ((x:Nat):Int) 8)=((x/8:Nat):Int):=by rw [tdiv8,wrap64 (by omega) (by omega)]
 have e0:Int.toNat ((x/8:Nat):Int)=x/8:=by omega
 have e1:Int.toNat ((x%8:Nat):Int)=x%8:=by omega
 refine fn73 ok ⟨rfl,_,_,_,h.c1,by omega,⟨by rw [w1]; omega,by rw [w1]; omega⟩,bp,0,rfl,b,by rw [w1,e0]; exact hld,by omega,by rw [tmod8]; omega,?_⟩
 rw [tmod8,e1]
 have hi:=h.bits.is (x/8) (x%8) b hb (by omega)
 have e:x/8*8+x%8=x:=by omega
 rw [e] at hi
 have:bitB b (x%8)=decide (x∈m):=by rw [Bool.eq_iff_iff,hi]; simp
 rw [<- this] at hq
 exact hq
end
end Va
end Go.Proofs.YtfhjkkbaghanhaaGreat
namespace Go.Ew
open Go.Ev Go.Deep
def DrIn (B:List Nat) (H:KH) (p:Nat) (m:List Nat) (N:Nat):Prop:=∃ bs bp am cm ex,DrB H p N bs m bp am cm ex/\B=p :: bp :: (blk am).toList
def strB (bs:List Int):ByteArray:=⟨(bs.map fun n=>UInt8.ofNat n.toNat).toArray⟩
theorem u8_bytes:∀ l:List Int,bytesOfCells (u8C l)=some (l.map fun n=>UInt8.ofNat n.toNat)
 | []=>rfl
 | x :: l=>by
   show (match bytesOfCells (u8C l) with | some r=>some (UInt8.ofNat x.toNat :: r) | none=>none)=_
   rw [u8_bytes l]; rfl
theorem strB_at {bs:List Int} {i:Nat} {b:Int} (h:bs[i]? = some b) (hr:0<=b/\b<=255):byteAt (strB bs) i=b:=by
 unfold byteAt strB
 simp only [List.getElem?_map,h,Option.map_some,Option.getD_some]
 have:(UInt8.ofNat b.toNat).toNat=b.toNat%256:=rfl
 omega
theorem strB_size (bs:List Int):(strB bs).size=bs.length:=by simp [strB,ByteArray.size]
end Go.Ew
namespace Go.Proofs.YtfhjkkbaghanhaaGreat
open Go.Ev Go.Ew
namespace Va
section
variable (ok : EnvOk (env Tryz.prog))
include ok
theorem c76 {B:List Nat} {H:KH} {p N:Nat} {m:List Nat} {Q:PQ} (h:DrIn B H p m N) (hq:∀ bs,Bits N bs m->Q (.agg #[.string (strB bs)]) H):Does (env Tryz.prog) 76 [.pointer (some ⟨p,0,none⟩)] H Q:=by
 obtain ⟨bs,bp,am,cm,ex,hs,rfl⟩:=h
 obtain ⟨e,h1,h2,h3⟩:=hs.byt
 exact fn76 ok ⟨rfl,_,_,_,hs.c1,_,_,kold_some.2 ⟨e,h1,by rw [Nat.mul_one]; exact h3⟩,u8_bytes bs,hq bs hs.bits⟩
theorem c51 {H:KH} {N:Nat} {Q:PQ} (hN:N<=900000) (hq:∀ B H' p,DrIn B H' p [] N->Le H H'->(∀ b∈B,H b=none)->Q (.pointer (some ⟨p,0,none⟩)) H'):Does (env Tryz.prog) 51 [.int .i64 ((N:Nat):Int)] H Q:=by
 have w1:IntKind.wrap .i64 (IntKind.wrap .i64 (Int.tdiv ((N:Nat):Int) 8)+1)=((N/8+1:Nat):Int):=by rw [tdiv8,wrap64 (x:=((N/8:Nat):Int)) (by omega) (by omega),wrap64 (by omega) (by omega)]; omega
 have e0:Int.toNat ((N/8+1:Nat):Int)=N/8+1:=by omega
 refine fn51 ok ⟨by omega,⟨by rw [w1]; omega,Int.le_refl _,by rw [w1]; omega⟩,fun n1 h1 n2 h2=>?_⟩
 rw [w1,e0] at h2 ⊢
 have l1:=Le.new (e:=mkEnt (lrep [.int .u8 0] (N/8+1)) 0) h1
 have l2:=Le.new (e:=mkEnt (Array.toList #[.int .i64 ((N:Nat):Int),.slice (some ⟨n1,0,none⟩) (N/8+1) (N/8+1),.slice none 0 0]) 0) h2
 have hne:n1≠n2:=fun z=>by rw [<- z] at h2; simp [KH.new] at h2
 have hrep:∀ n,lrep [Value.int .u8 0] n=u8C (List.replicate n 0):=by
  intro n
  induction n with
  | zero=>rfl
  | succ n ih=>simp only [lrep,ih,List.replicate_succ,u8C,List.map_cons]; rfl
 have hh:∀ cs:List Value,rd (mkEnt cs 0).cells 0 cs.length=some cs:=fun cs=>rd_some rfl fun j v hv=>by rw [Nat.zero_add]; simp only [mkEnt,tget_wr_nil]; exact hv
 refine hq (n2 :: n1 :: (blk (none:OA)).toList) _ n2 ⟨List.replicate (N/8+1) 0,n1,none,0,[],⟨⟨_,if_pos rfl,rfl,hh _⟩,⟨mkEnt (lrep [.int .u8 0] (N/8+1)) 0,l2 n1 _ (if_pos rfl),rfl,?_⟩,.nil,Bits.nil N,List.nodup_nil,(fun x hx=>by cases hx),hne.symm,(fun z=>by cases z),fun z=>by cases z⟩,rfl⟩ (l1.trans l2) fun b hb=>?_
 .have hl:(u8C (List.replicate (N/8+1) 0)).length=N/8+1:=by simp [u8C]
  have:=hh (u8C (List.replicate (N/8+1) 0))
  rw [hl] at this
  rw [hrep]
  exact this
 .rcases List.mem_cons.1 hb with z | hb
  .rw [z]; exact l1.none h2
  .have:b=n1:=by simpa [blk] using hb
   rw [this]; exact h1
theorem c52 {B:List Nat} {H:KH} {p N:Nat} {m:List Nat} {x:Int} {Q:PQ} (h:DrIn B H p m N) (hN:N<=900000) (hq:∀ B' H',DrIn B' H' p (addS N m x) N->Fr1 B B' H H'->Q (.tuple #[]) H'):Does (env Tryz.prog) 52 [.pointer (some ⟨p,0,none⟩),.int .i64 x] H Q:=by
 have h0:=h
 obtain ⟨bs,bp,am,cm,ex,hs,rfl⟩:=h
 unfold addS at hq
 refine fn52 ok ⟨fun h1=>?_,fun h1=>⟨rfl,_,hs.c0,fun h2=>?_,fun h2=>?_⟩⟩
 .rw [if_pos (of_decide_eq_true h1)] at hq
  exact hq _ H h0 (Fr1.refl _ _)
 .rw [if_neg (of_decide_eq_false h1),if_pos (of_decide_eq_true h2)] at hq
  exact hq _ H h0 (Fr1.refl _ _)
 rw [if_neg (of_decide_eq_false h1),if_neg (of_decide_eq_false h2)] at hq
 have h1:=of_decide_eq_false h1
 have h2:=of_decide_eq_false h2
 obtain ⟨y,rfl⟩:∃ y:Nat,x=y:=⟨x.toNat,by omega⟩
 have hy:y<N:=by omega
 have e0:Int.toNat ((y:Nat):Int)=y:=by omega
 rw [e0] at hq
 refine c73 ok hs hy hN ⟨_,rfl,fun h3=>?_,fun h3=>?_⟩
 .rw [if_pos (of_decide_eq_true h3)] at hq
  exact hq _ H h0 (Fr1.refl _ _)
 have h3:=of_decide_eq_false h3
 rw [if_neg h3] at hq
 have hml:=nodup_le N m hs.nod hs.lt
 obtain ⟨b,hb,hld⟩:=hs.at_ hy
 have hbl:y/8<bs.length:=by rw [hs.bits.len]; omega
 obtain ⟨ep,p1,p2,p3⟩:=hs.byt
 obtain ⟨eq,q1,q2,q3⟩:=hs.pt
 have w1:IntKind.wrap .i64 (Int.tdiv ((y:Nat):Int) 8)=((y/8:Nat):Int):=by rw [tdiv8,wrap64 (by omega) (by omega)]
 have e8:Int.toNat ((y/8:Nat):Int)=y/8:=by omega
 have e9:Int.toNat ((y%8:Nat):Int)=y%8:=by omega
 rw [w1,tmod8,e8,e9]
 have hH1q:(H.put ⟨bp,0+y/8*1,none⟩ [.int .u8 (setB b (y%8))]) p=some eq:=put_ne hs.d1 q1
 have hc0':ld (H.put ⟨bp,0+y/8*1,none⟩ [.int .u8 (setB b (y%8))]) ⟨p,0+2,none⟩ [.slice am m.length cm]:=by
  have:=ldSub (ld_of hH1q q3) 2 1 (by simp)
  simpa using this
 refine ⟨trivial,rfl,_,_,_,hs.c1,by omega,⟨by omega,by omega⟩,bp,0,rfl,b,hld,by omega,by omega,⟨by omega,by omega⟩,bp,0,rfl,stOk hld rfl,⟨ep,p1,p2⟩,trivial,rfl,am,_,cm,hc0',fun n13 h13 n14 h14=>?_⟩
 have h13:(H.put ⟨bp,0+y/8*1,none⟩ [.int .u8 (setB b (y%8))]) n13=none:=h13
 have h14:((H.put ⟨bp,0+y/8*1,none⟩ [.int .u8 (setB b (y%8))]).new n13 (mkEnt [.int .i64 ((y:Nat):Int)] 0)) n14=none:=h14
 have l13:=Le.new (e:=mkEnt [.int .i64 ((y:Nat):Int)] 0) h13
 have hmem:Gr ((H.put ⟨bp,0+y/8*1,none⟩ [.int .u8 (setB b (y%8))]).new n13 (mkEnt [.int .i64 ((y:Nat):Int)] 0)) 1 am m.length cm (natC m) ex:=hs.mem.agree fun k e z1 z2=>l13 k e (put_ne (fun z=>hs.d3 (by rw [z1,z])) z2)
 obtain ⟨a',H',ex',f1,f2,_,f4,f5⟩:=hmem.append (ti:=IT1) (new:=[.int .i64 ((y:Nat):Int)]) h14 rfl (by omega) (by decide) (by decide)
 have h14':(H.put ⟨bp,0+y/8*1,none⟩ [.int .u8 (setB b (y%8))]) n14=none:=l13.none h14
 have h14'':H n14=none:=by
  rcases none_or H n14 with z | ⟨e,z⟩
  .exact z
  .by_cases hb:n14=bp
   .rw [hb] at h14'
    simp only [KH.put,if_true,p1,Option.map_some] at h14'; cases h14'
   .rw [put_ne hb z] at h14'; cases h14'
 have kp1:∀ k e,H k=some e->k≠bp->blk am≠some k->H' k=some e:=fun k e z1 z2 z3=>f4 k e (l13 k e (put_ne z2 z1)) z3
 have hq':H' p=some eq:=kp1 p eq q1 hs.d1 hs.d2
 have hp':H' bp=some ⟨wr ep.cells (0+y/8*1) [.int .u8 (setB b (y%8))],ep.len,ep.unk,none⟩:=f4 bp _ (l13 bp _ (by simp only [KH.put,if_true,p1,Option.map_some])) hs.d3
 have ha':∀ b,blk a'=some b->b≠p/\b≠bp/\(blk am=some b\/H b=none):=fun b z=>by
  rcases f5 b z with u | u
  .exact ⟨fun v=>hs.d2 (by rw [u,v]),fun v=>hs.d3 (by rw [u,v]),.inl u⟩
  .subst u
   exact ⟨fun v=>(by rw [v,q1] at h14''; cases h14''),fun v=>(by rw [v,p1] at h14''; cases h14''),.inr h14''⟩
 have hw2:ld H' ⟨p,0+2,none⟩ [.slice am m.length cm]:=by
  have:=ldSub (ld_of hq' q3) 2 1 (by simp)
  simpa using this
 refine ⟨1,_,knew_of (lit_kold (if_pos rfl) rfl),a',_,_,H',f1,rfl,stOk hw2 rfl,⟨eq,hq',q2⟩,?_⟩
 refine hq (p :: bp :: (blk a').toList) _ ⟨bs.set (y/8) (setB b (y%8)),bp,a',unkU,ex',⟨⟨⟨wr eq.cells (0+2) [.slice a' (m.length+1) unkU],eq.len,eq.unk,none⟩,by simp only [KH.put,if_true,hq',Option.map_some],wrB_keep q2,?_⟩,⟨_,put_ne hs.d1.symm hp',wrB_keep p2,?_⟩,?_,hs.bits.add hy hb,?_,?_,hs.d1,fun z=>(ha' p z).1 rfl,fun z=>(ha' bp z).2.1 rfl⟩,rfl⟩ ⟨fun k e z1 z2=>?_,fun b z=>?_⟩
 .have hl:(m++[y]).length=m.length+1:=by simp
  rw [hl]
  have:=rdWr (e:=eq.cells) (N:=3) (o:=0+2) (xs:=[.int .i64 ((N:Nat):Int),.slice (some ⟨bp,0,none⟩) (N/8+1) (N/8+1)]) (ys:=[.slice am m.length cm]) (zs:=[]) (vs:=[.slice a' (m.length+1) unkU]) (by simpa using q3) rfl rfl
  simpa using this
 .have hsp:u8C bs=u8C (bs.take (y/8))++[.int .u8 bs[y/8]]++u8C (bs.drop (y/8+1)):=by
   have:bs=bs.take (y/8)++[bs[y/8]]++bs.drop (y/8+1):=by
    rw [List.append_assoc]
    have h2:[bs[y/8]]++bs.drop (y/8+1)=bs.drop (y/8):=by rw [List.drop_eq_getElem_cons hbl]; rfl
    rw [h2,List.take_append_drop]
   have h3:=congrArg u8C this
   rw [u8C_app,u8C_app] at h3
   exact h3
  have hst:u8C (bs.set (y/8) (setB b (y%8)))=u8C (bs.take (y/8))++[.int .u8 (setB b (y%8))]++u8C (bs.drop (y/8+1)):=by
   rw [List.set_eq_take_append_cons_drop,if_pos hbl]
   simp [u8C]
  rw [hst]
  exact rdWr (ys:=[.int .u8 bs[y/8]]) (by rw [p3,hsp]) (by rw [u8C_len,List.length_take]; omega) rfl
 .have hl:(m++[y]).length=m.length+1:=by simp
  have hn:natC (m++[y])=natC m++[.int .i64 ((y:Nat):Int)]:=by simp [natC]
  rw [hl,hn]
  exact f2.agree fun k e z1 z2=>put_ne (fun z=>(ha' k z1).1 z) z2
 .rw [List.nodup_append]
  exact ⟨hs.nod,by simp,fun a z1 b z2 z3=>by
   have z2:b=y:=by simpa using z2
   exact h3 (by rw [<- z2,<- z3]; exact z1)⟩
 .intro z hz
  rcases List.mem_append.1 hz with hz | hz
  .exact hs.lt z hz
  .have:z=y:=by simpa using hz
   rw [this]; exact hy
 .have n1:k≠p:=fun u=>z2 (by simp [u])
  have n2:k≠bp:=fun u=>z2 (by simp [u])
  have n3:blk am≠some k:=fun u=>z2 (by simp [u])
  exact put_ne n1 (kp1 k e z1 n2 n3)
 .rcases List.mem_cons.1 z with u | z
  .exact .inl (by simp [u])
  rcases List.mem_cons.1 z with u | z
  .exact .inl (by simp [u])
  .have z:blk a'=some b:=by simpa using z
   rcases (ha' b z).2.2 with v | v
   .exact .inl (by simp [v])
   .exact .inr v
end
end Va
end Go.Proofs.YtfhjkkbaghanhaaGreat
namespace Go.Ew
open Go.Ev Go.Deep
structure BdS (X:KH) (w:Nat) (S:List St) (a:OA) (c:Nat):Prop where
 st:SsN X S a
 wc:∀ H',Le X H'->ld H' ⟨w,0+0,none⟩ [.slice a S.length c]
theorem BdS.state {X:KH} {w c:Nat} {S:List St} {a:OA} (h:BdS X w S a c) {x:Nat} (hx:x<S.length):∃ b o af cf,a=some ⟨b,o,none⟩/\(∀ H',Le X H'->ld H' ⟨b,o+x*5,none⟩ (stC (stAt S x) af cf))/\kold X 1 af (stAt S x).free.length=some (inC (stAt S x).free):=by
 obtain ⟨cs,h1,h2⟩:=h.st
 obtain ⟨b,o,e,r⟩:=rowAddr h1 (by omega)
 have hs:S[x]? = some (stAt S x):=by unfold stAt; simp [hx]
 obtain ⟨af,cf,g1,g2⟩:=h2.get hs
 have:=r (x*5) 5 (by omega)
 rw [g1] at this
 exact ⟨b,o,af,cf,e,fun H' hl=>hl.ld this,g2⟩
structure DrW (X H:KH) (B:List Nat) (p N:Nat) (m:List Nat):Prop where
 le:Le X H
 dr:DrIn B H p m N
 out:∀ b∈B,X b=none
theorem DrW.step {X H H':KH} {B B':List Nat} {p N:Nat} {m m':List Nat} (h:DrW X H B p N m) (hd:DrIn B' H' p m' N) (hf:Fr1 B B' H H'):DrW X H' B' p N m':=by
 refine ⟨fun k e q=>hf.kp k e (h.le k e q) fun z=>?_,hd,fun b hb=>?_⟩
 .rw [h.out k z] at q; cases q
 .rcases hf.nw b hb with z | z
  .exact h.out b z
  .exact h.le.none z
end Go.Ew
namespace Go.Proofs.YtfhjkkbaghanhaaGreat
open Go.Ev Go.Ew
namespace Va
section
variable (ok : EnvOk (env Tryz.prog))
include ok
theorem l74 {X H:KH} {w p:Nat} {S:List St} {B m:List Nat} {f:List Int} {af:OA} {cf i M:Nat} {I:Nat->Nat->Nat->Nat->Nat->Int->KH->Prop} (h:DrW X H B p S.length m) (hf:kold X 1 af f.length=some (inC f)) (hS:S.length<=900000) (hfl:f.length<=1000000)
 (hI:∀ H' B',DrW X H' B' p S.length (f.foldl (addS S.length) m)->∃ n13,n13<M/\(none:Option Nat)=none/\(none:Option Nat)=none/\I n13 w 0 p 0 (IntKind.wrap .i64 (((i:Nat):Int)+1)) H'):vc74_L1 w 0 p 0 ((i:Nat):Int) af f.length cf H M I:=by
 unfold vc74_L1
 refine ⟨fun n3 n4 n5 n6 n7 x8 a9 n10 n11 x12 x13 H14=>n4=w/\n5=0/\n6=p/\n7=0/\x8=(i:Nat)/\a9=af/\n10=f.length/\x12=(f.length:Nat)/\∃ (k:Nat) (B':List Nat),x13=k/\k<=f.length/\n3=f.length-k/\DrW X H14 B' p S.length ((f.take k).foldl (addS S.length) m),⟨f.length,rfl,rfl,rfl,rfl,rfl,rfl,rfl,rfl,rfl,rfl,0,B,rfl,by omega,rfl,by simpa using h⟩,?_⟩
 rintro n3 n4 n5 n6 n7 x8 a9 n10 n11 x12 x13 H14 ⟨rfl,rfl,rfl,rfl,rfl,rfl,rfl,rfl,k,B',rfl,hk,rfl,hW⟩
 refine ⟨fun hlt=>?_,fun hge=>?_⟩
 .have hlt:k<f.length:=by have:=of_decide_eq_true hlt; omega
  have e0:Int.toNat ((k:Nat):Int)=k:=by omega
  obtain ⟨b1,o1,e1,r1⟩:=rowAddr (hW.le.kold hf) (by omega)
  have g1:=r1 (k*1) 1 (by omega)
  rw [inC_at (show f[k]? = some f[k] by simp [hlt])] at g1
  rw [e0]
  refine ⟨⟨by omega,by omega⟩,b1,o1,e1,_,g1,c52 ok hW.dr hS fun B2 H' hs hfr=>⟨rfl,f.length-(k+1),by omega,rfl,rfl,rfl,rfl,rfl,rfl,rfl,rfl,rfl,rfl,k+1,B2,by rw [wrap64 (by omega) (by omega)]; omega,by omega,rfl,?_⟩⟩
  rw [List.take_succ_eq_append_getElem hlt,List.foldl_append]
  exact hW.step hs hfr
 .have hge:k=f.length:=by have:=of_decide_eq_false hge; omega
  subst hge
  rw [List.take_length] at hW
  exact hI H14 B' hW
theorem c74 {X H:KH} {w p:Nat} {S:List St} {a:OA} {c:Nat} {B m:List Nat} {Q:PQ} (hb:BdS X w S a c) (h:DrW X H B p S.length m) (hS:S.length<=900000) (hfl:∀ x,(stAt S x).free.length<=1000000)
 (hq:∀ H' B',DrW X H' B' p S.length (clM S m)->Q (.tuple #[]) H'):Does (env Tryz.prog) 74 [.pointer (some ⟨w,0,none⟩),.pointer (some ⟨p,0,none⟩)] H Q:=by
 refine fn74 ok ?_
 unfold vc74 vc74_L3
 refine ⟨fun n3 n4 n5 n6 n7 x8 H9=>n4=w/\n5=0/\n6=p/\n7=0/\∃ (i:Nat) (B' m':List Nat),x8=i/\i<=S.length/\n3=S.length+1-i/\DrW X H9 B' p S.length m'/\spM S (S.length+1-i) i m'=clM S m,⟨S.length+1,rfl,rfl,rfl,rfl,rfl,rfl,0,B,m,rfl,by omega,rfl,h,rfl⟩,?_⟩
 rintro n3 n4 n5 n6 n7 x8 H9 ⟨rfl,rfl,rfl,rfl,i,B',m',rfl,hi,rfl,hW,hm⟩
 obtain ⟨bs,bp,am,cm,ex,hs,hB1⟩:=hW.dr
 have hml:=nodup_le _ m' hs.nod hs.lt
 obtain ⟨f,hf⟩:∃ f,S.length+1-i=f+1:=⟨S.length-i,by omega⟩
 rw [hf,spM] at hm
 refine ⟨rfl,am,_,cm,hs.c2,fun hlt=>?_,fun hge=>?_⟩
 .have hlt:i<m'.length:=by have:=of_decide_eq_true hlt; omega
  have hmi:m'[i]? = some m'[i]:=by simp [hlt]
  rw [hmi] at hm
  have hx:=hs.lt m'[i] (List.getElem_mem hlt)
  have e0:Int.toNat ((i:Nat):Int)=i:=by omega
  have e1:Int.toNat ((m'[i]:Nat):Int)=m'[i]:=by omega
  obtain ⟨b1,o1,z1,r1⟩:=rowAddr hs.mem.row (by omega)
  have g1:=r1 (i*1) 1 (by omega)
  rw [natC_at hmi] at g1
  obtain ⟨b2,o2,af,cf,z2,hst,hfr⟩:=hb.state hx
  refine ⟨trivial,rfl,a,_,c,hb.wc H9 hW.le,rfl,am,_,cm,hs.c2,⟨by omega,by omega⟩,b1,o1,z1,_,by rw [e0]; exact g1,⟨by omega,by omega⟩,b2,o2,z2,rfl,af,_,cf,by rw [e1]; exact stC_ld3 (hst H9 hW.le),?_⟩
  refine l74 ok hW hfr hS (hfl _) fun H' B2 hW'=>⟨S.length-i,by omega,rfl,rfl,rfl,rfl,rfl,rfl,i+1,B2,_,by rw [wrap64 (by omega) (by omega)]; omega,by omega,by omega,hW',?_⟩
  have:S.length+1-(i+1)=f:=by omega
  rw [this]
  exact hm
 .have hge:m'.length<=i:=by have:=of_decide_eq_false hge; omega
  rw [List.getElem?_eq_none hge] at hm
  have hm:m'=clM S m:=hm
  subst hm
  exact hq H9 B' hW
theorem c56 {X H:KH} {w:Nat} {S:List St} {a am:OA} {c cm:Nat} {K:List Nat} {ch:Int} {Q:PQ} (hb:BdS X w S a c) (hX:Le X H) (hK:kold X 1 am K.length=some (natC K)) (hlt:∀ x∈K,x<S.length) (hS:S.length<=900000) (hKl:K.length<=1000000)
 (hq:∀ H' B p,DrW X H' B p S.length (K.foldl (moveM S ch) [])->Le H H'->(∀ b∈B,H b=none)->Q (.pointer (some ⟨p,0,none⟩)) H'):Does (env Tryz.prog) 56 [.pointer (some ⟨w,0,none⟩),.slice am K.length cm,.int .u8 ch] H Q:=by
 refine fn56 ok ⟨rfl,a,_,c,hb.wc H hX,c51 ok hS fun B H5 p hd hl5 hout=>⟨p,0,rfl,?_⟩⟩
 unfold vc56_L1
 have h0:DrW H H5 B p S.length []:=⟨hl5,hd,hout⟩
 refine ⟨fun n3 n4 n5 x6 n7 n8 a9 n10 n11 x12 x13 H14=>n4=w/\n5=0/\x6=ch/\n7=p/\n8=0/\a9=am/\n10=K.length/\x12=(K.length:Nat)/\∃ (k:Nat) (B':List Nat),x13=k/\k<=K.length/\n3=K.length-k/\DrW H H14 B' p S.length ((K.take k).foldl (moveM S ch) []),⟨K.length,rfl,rfl,rfl,rfl,rfl,rfl,rfl,rfl,rfl,rfl,0,B,rfl,by omega,rfl,by simpa using h0⟩,?_⟩
 rintro n3 n4 n5 x6 n7 n8 a9 n10 n11 x12 x13 H14 ⟨rfl,rfl,rfl,rfl,rfl,rfl,rfl,rfl,k,B',rfl,hk,rfl,hW⟩
 refine ⟨fun hlt2=>?_,fun hge=>?_⟩
 .have hlt2:k<K.length:=by have:=of_decide_eq_true hlt2; omega
  have e0:Int.toNat ((k:Nat):Int)=k:=by omega
  have e1:Int.toNat ((K[k]:Nat):Int)=K[k]:=by omega
  have hx:=hlt K[k] (List.getElem_mem hlt2)
  have hle:=hX.trans hW.le
  obtain ⟨b1,o1,z1,r1⟩:=rowAddr (hle.kold hK) (by omega)
  have g1:=r1 (k*1) 1 (by omega)
  rw [natC_at (show K[k]? = some K[k] by simp [hlt2])] at g1
  obtain ⟨b2,o2,af,cf,z2,hst,hfr⟩:=hb.state hx
  have wk:IntKind.wrap .i64 (((k:Nat):Int)+1)=((k+1:Nat):Int):=by rw [wrap64 (by omega) (by omega)]; omega
  have nxt:∀ {B2:List Nat} {H2:KH},DrW H H2 B2 n7 S.length (moveM S x6 ((K.take k).foldl (moveM S x6) []) K[k])->DrW H H2 B2 n7 S.length ((K.take (k+1)).foldl (moveM S x6) []):=fun h=>by
   rw [List.take_succ_eq_append_getElem hlt2,List.foldl_append]
   exact h
  rw [e0,wk]
  refine ⟨⟨by omega,by omega⟩,b1,o1,z1,_,g1,rfl,a,_,c,hb.wc H14 hle,⟨by omega,by omega⟩,b2,o2,z2,(stAt S K[k]).lo,(stAt S K[k]).hi,(stAt S K[k]).next,af,_,cf,(stAt S K[k]).e,by rw [e1]; exact hst H14 hle,fun q1=>⟨fun q2=>?_,fun q2=>?_⟩,fun q1=>?_⟩
  .have q1:=of_decide_eq_true q1
   have q2:=of_decide_eq_true q2
   refine c52 ok hW.dr hS fun B2 H2 hs hfr=>⟨rfl,K.length-(k+1),by omega,rfl,rfl,rfl,rfl,rfl,rfl,rfl,rfl,rfl,rfl,k+1,B2,rfl,by omega,rfl,nxt ?_⟩
   unfold moveM
   rw [if_pos ⟨q1,q2⟩]
   exact hW.step hs hfr
  .have q2:=of_decide_eq_false q2
   refine ⟨K.length-(k+1),by omega,rfl,rfl,rfl,rfl,rfl,rfl,rfl,rfl,rfl,rfl,k+1,B',rfl,by omega,rfl,nxt ?_⟩
   unfold moveM
   rw [if_neg fun z=>q2 z.2]
   exact hW
  .have q1:=of_decide_eq_false q1
   refine ⟨K.length-(k+1),by omega,rfl,rfl,rfl,rfl,rfl,rfl,rfl,rfl,rfl,rfl,k+1,B',rfl,by omega,rfl,nxt ?_⟩
   unfold moveM
   rw [if_neg fun z=>q1 z.1]
   exact hW
 .have hge:k=K.length:=by have:=of_decide_eq_false hge; omega
  subst hge
  rw [List.take_length] at hW
  exact hq H14 B' n7 ⟨hX.trans hW.le,hW.dr,fun b hb=>hX.none (hW.out b hb)⟩ hW.le hW.out
theorem c55 {X H:KH} {w:Nat} {S:List St} {a am:OA} {c cm:Nat} {K:List Nat} {Q:PQ} (hb:BdS X w S a c) (hX:Le X H) (hK:kold X 1 am K.length=some (natC K)) (hlt:∀ x∈K,x<S.length) (hS:S.length<=900000) (hKl:K.length<=1000000)
 (hq:Q (.int .i64 (endM S K)) H):Does (env Tryz.prog) 55 [.pointer (some ⟨w,0,none⟩),.slice am K.length cm] H Q:=by
 refine fn55 ok ?_
 unfold vc55 vc55_L1
 refine ⟨fun n3 n4 n5 x6 a7 n8 n9 x10 x11 H12=>n4=w/\n5=0/\a7=am/\n8=K.length/\x10=(K.length:Nat)/\H12=H/\∃ k:Nat,x11=k/\k<=K.length/\n3=K.length-k/\x6=(K.take k).foldl (leastM S) 0,⟨K.length,rfl,rfl,rfl,rfl,rfl,rfl,rfl,0,rfl,by omega,rfl,by simp⟩,?_⟩
 rintro n3 n4 n5 x6 a7 n8 n9 x10 x11 H12 ⟨rfl,rfl,rfl,rfl,rfl,rfl,k,rfl,hk,rfl,rfl⟩
 refine ⟨fun hl2=>?_,fun hge=>?_⟩
 .have hl2:k<K.length:=by have:=of_decide_eq_true hl2; omega
  have hmi:K[k]? = some K[k]:=by simp [hl2]
  have hx:=hlt K[k] (List.getElem_mem hl2)
  have e0:Int.toNat ((k:Nat):Int)=k:=by omega
  have e1:Int.toNat ((K[k]:Nat):Int)=K[k]:=by omega
  obtain ⟨b1,o1,z1,r1⟩:=rowAddr (hX.kold hK) (by omega)
  have g1:=r1 (k*1) 1 (by omega)
  rw [natC_at hmi] at g1
  obtain ⟨b2,o2,af,cf,z2,hst,hfr⟩:=hb.state hx
  have hnext:(K.take (k+1)).foldl (leastM S) 0=leastM S ((K.take k).foldl (leastM S) 0) K[k]:=by
   rw [List.take_succ_eq_append_getElem hl2,List.foldl_append]; rfl
  generalize hy0:(K.take k).foldl (leastM S) 0=y0 at *
  have go:∀ y,leastM S y0 K[k]=y->∃ n10,n10<K.length-k/\(none:Option Nat)=none/\(n4=n4/\0=0/\a7=a7/\K.length=K.length/\((K.length:Nat):Int)=(K.length:Nat)/\H12=H12/\∃ k_1:Nat,IntKind.wrap .i64 (((k:Nat):Int)+1)=k_1/\k_1<=K.length/\n10=K.length-k_1/\y=(K.take k_1).foldl (leastM S) 0):=fun y hy=>⟨K.length-(k+1),by omega,rfl,rfl,rfl,rfl,rfl,rfl,rfl,k+1,by rw [wrap64 (by omega) (by omega)]; omega,by omega,rfl,by rw [hnext,hy]⟩
  refine ⟨⟨by omega,by omega⟩,b1,o1,z1,_,by rw [e0]; exact g1,rfl,a,_,c,hb.wc H12 hX,⟨by omega,by omega⟩,b2,o2,z2,rfl,_,by rw [e1]; exact stC_ld4 (hst H12 hX),fun t1=>⟨fun t2=>?_,fun t2=>⟨fun t3=>?_,fun t3=>?_⟩⟩,fun t1=>?_⟩
  .refine go _ ?_
   unfold leastM
   rw [if_pos (of_decide_eq_true t1),if_pos (of_decide_eq_true t2)]
  .refine go _ ?_
   unfold leastM
   rw [if_pos (of_decide_eq_true t1),if_neg (of_decide_eq_false t2),if_pos (of_decide_eq_true t3)]
  .refine go _ ?_
   unfold leastM
   rw [if_pos (of_decide_eq_true t1),if_neg (of_decide_eq_false t2),if_neg (of_decide_eq_false t3)]
  .refine go _ ?_
   unfold leastM
   rw [if_neg (of_decide_eq_false t1)]
 .have hge:k=K.length:=by have:=of_decide_eq_false hge; omega
  subst hge
  rw [List.take_length]
  exact hq
end
end Va
end Go.Proofs.YtfhjkkbaghanhaaGreat
set_option maxRecDepth 100000
namespace Go.Proofs.YtfhjkkbaghanhaaGreat
open Go.Ev Go.Ew
namespace Va
def W50 (P:Program):WE:=⟨env P,tupT,[0],mkTab [],50⟩
def vc50 (H:KH) (Q:PQ):Prop :=
 (∀ (a:Nat),((H a):(Option (Ent)))=none->Q (.agg #[.map (some a),.slice none 0 0]) (KH.new H a (mpE [])))
theorem fn50 (ok:EnvOk (env Tryz.prog))  {H:KH} {Q:PQ} (h:vc50  H Q):Does (env Tryz.prog) 50 [] H Q :=
 wFun_sound (W:=W50 Tryz.prog) ok.tt (blt_lt (by kernel_rfl)) (ff_of ok (by kernel_rfl) Tryz.func50) (Eq.mpr (by kernel_rfl) h)
def W75 (P:Program):WE:=⟨env P,tupT,[3],mkTab [],75⟩
def vc75 (p0b p0o:Nat) (p1_0:ByteArray) (H:KH) (Q:PQ):Prop :=
 (True/\(none:(Option Nat))=none/\∃ (r:Nat),ld H ⟨p0b,p0o+0,none⟩ [(.map (some r))]/\∃ (i:(List (Value × Value))),mpAt H r i/\((NoKey (env Tryz.prog) 97 3 i (.agg #[(.string p1_0)]) (.int .i64 0)/\((!false)=true->(none:(Option Nat))=none/\∃ (aj:(OA)) (j ak:Nat),ld H ⟨p0b,p0o+1,none⟩ [(.slice aj j ak)]/\True/\(none:(Option Nat))=none/\∃ (a:Nat),ld H ⟨p0b,p0o+0,none⟩ [(.map (some a))]/\∃ (s:(List (Value × Value))) (c:(List (Value × Value))),mpAt H a s/\UpdIs (env Tryz.prog) 97 s (.agg #[(.string p1_0)]) (.int .i64 (j:Int)) c/\True/\True/\(none:(Option Nat))=none/\∃ (t:(OA)) (u v:Nat),ld (KH.new H a (mpE c)) ⟨p0b,p0o+1,none⟩ [(.slice t u v)]/\∀ (e:Nat),(((KH.new H a (mpE c)) e):(Option (Ent)))=none->∀ (w:Nat),(((KH.new (KH.new H a (mpE c)) e (mkEnt [(.string p1_0)] 0)) w):(Option (Ent)))=none->∃ (x:Nat) (y:(List Value)),((knew (KH.new (KH.new H a (mpE c)) e (mkEnt [(.string p1_0)] 0)) ⟨1,16,true,3,0,0,[(0,1)],[(.string (ByteArray.mk #[]))]⟩ (.slice (some ⟨e,0,none⟩) 1 1)):(Option (Nat × (List Value))))=(some (x,y))/\∃ (k:(OA)) (l m:Nat) (g:KH),((kappend (KH.new (KH.new H a (mpE c)) e (mkEnt [(.string p1_0)] 0)) w ⟨1,16,true,3,0,0,[(0,1)],[(.string (ByteArray.mk #[]))]⟩ t u v x y):(Option (Value × KH)))=(some (.slice k l m,g))/\(((.pointer (some ⟨p0b,p0o,none⟩)):Value)=(.pointer (some ⟨p0b,p0o,none⟩))/\True)/\(none:(Option Nat))=none/\(∃ (z:(List Value)),((List.length z):Nat)=(List.length [(Value.slice k l m)])/\ld g ⟨p0b,p0o+1,none⟩ z)/\KH.may g p0b/\True/\Q (.int .i64 (j:Int)) (KH.put g ⟨p0b,p0o+1,none⟩ [(.slice k l m)]))/\((!false)=false->Q (.int .i64 0) H))\/(∃ (aa:Int),HasKey (env Tryz.prog) 97 i (.agg #[(.string p1_0)]) (.int .i64 aa)/\((!true)=true->(none:(Option Nat))=none/\∃ (al:(OA)) (n am:Nat),ld H ⟨p0b,p0o+1,none⟩ [(.slice al n am)]/\True/\(none:(Option Nat))=none/\∃ (b:Nat),ld H ⟨p0b,p0o+0,none⟩ [(.map (some b))]/\∃ (ab:(List (Value × Value))) (d:(List (Value × Value))),mpAt H b ab/\UpdIs (env Tryz.prog) 97 ab (.agg #[(.string p1_0)]) (.int .i64 (n:Int)) d/\True/\True/\(none:(Option Nat))=none/\∃ (ac:(OA)) (ad ae:Nat),ld (KH.new H b (mpE d)) ⟨p0b,p0o+1,none⟩ [(.slice ac ad ae)]/\∀ (f:Nat),(((KH.new H b (mpE d)) f):(Option (Ent)))=none->∀ (af:Nat),(((KH.new (KH.new H b (mpE d)) f (mkEnt [(.string p1_0)] 0)) af):(Option (Ent)))=none->∃ (ag:Nat) (ah:(List Value)),((knew (KH.new (KH.new H b (mpE d)) f (mkEnt [(.string p1_0)] 0)) ⟨1,16,true,3,0,0,[(0,1)],[(.string (ByteArray.mk #[]))]⟩ (.slice (some ⟨f,0,none⟩) 1 1)):(Option (Nat × (List Value))))=(some (ag,ah))/\∃ (o:(OA)) (p q:Nat) (h:KH),((kappend (KH.new (KH.new H b (mpE d)) f (mkEnt [(.string p1_0)] 0)) af ⟨1,16,true,3,0,0,[(0,1)],[(.string (ByteArray.mk #[]))]⟩ ac ad ae ag ah):(Option (Value × KH)))=(some (.slice o p q,h))/\(((.pointer (some ⟨p0b,p0o,none⟩)):Value)=(.pointer (some ⟨p0b,p0o,none⟩))/\True)/\(none:(Option Nat))=none/\(∃ (ai:(List Value)),((List.length ai):Nat)=(List.length [(Value.slice o p q)])/\ld h ⟨p0b,p0o+1,none⟩ ai)/\KH.may h p0b/\True/\Q (.int .i64 (n:Int)) (KH.put h ⟨p0b,p0o+1,none⟩ [(.slice o p q)]))/\((!true)=false->Q (.int .i64 aa) H))))
theorem fn75 (ok:EnvOk (env Tryz.prog)) {p0b p0o:Nat} {p1_0:ByteArray} {H:KH} {Q:PQ} (h:vc75 p0b p0o p1_0 H Q):Does (env Tryz.prog) 75 [.pointer (some ⟨p0b,p0o,none⟩),.agg #[.string p1_0]] H Q :=
 wFun_sound (W:=W75 Tryz.prog) ok.tt (blt_lt (by kernel_rfl)) (ff_of ok (by kernel_rfl) Tryz.func75) (Eq.mpr (by kernel_rfl) h)
def W53 (P:Program):WE:=⟨env P,tupT,[],mkTab [],53⟩
def vc53 (p0b p0o p1b p1o:Nat) (H:KH) (Q:PQ):Prop :=
 ((none:(Option Nat))=none/\∃ (d:(OA)) (a e:Nat),ld H ⟨p1b,p1o+2,none⟩ [(.slice d a e)]/\(decide ((a:Int)=0)=true->Q (.int .i64 (-1)) H)/\(decide ((a:Int)=0)=false->Does (env Tryz.prog) 74 [.pointer (some ⟨p0b,p0o,none⟩),.pointer (some ⟨p1b,p1o,none⟩)] H fun f g=>f=(.tuple #[])/\True/\(none:(Option Nat))=none/\Does (env Tryz.prog) 76 [(.pointer (some ⟨p1b,p1o,none⟩))] g fun h i=>∃ (b:ByteArray),h=(.agg #[(.string b)])/\(((.pointer (some ⟨p0b,p0o,none⟩)):Value)=(.pointer (some ⟨p0b,p0o,none⟩))/\((.pointer (some ⟨p0b,p0o,none⟩)):Value)=(.pointer (some ⟨p0b,p0o,none⟩))/\((none:(Option Nat))=none/\((.pointer (some ⟨p0b,p0o+257,none⟩)):Value)=(.pointer (some ⟨p0b,p0o+257,none⟩)))/\True)/\Does (env Tryz.prog) 75 [.pointer (some ⟨p0b,p0o+257,none⟩),.agg #[(.string b)]] i fun j k=>∃ (c:Int),j=(.int .i64 c)/\True/\Q (.int .i64 c) k))
theorem fn53 (ok:EnvOk (env Tryz.prog)) {p0b p0o p1b p1o:Nat} {H:KH} {Q:PQ} (h:vc53 p0b p0o p1b p1o H Q):Does (env Tryz.prog) 53 [.pointer (some ⟨p0b,p0o,none⟩),.pointer (some ⟨p1b,p1o,none⟩)] H Q :=
 wFun_sound (W:=W53 Tryz.prog) ok.tt (blt_lt (by kernel_rfl)) (ff_of ok (by kernel_rfl) Tryz.func53) (Eq.mpr (by kernel_rfl) h)
def W32 (P:Program):WE:=⟨env P,tupT,[],mkTab [],32⟩
def vc32 (p0:OA) (p0n p0c:Nat) (H:KH) (Q:PQ):Prop :=
 Does (env Tryz.prog) 49 [(.slice p0 p0n p0c)] H fun k l=>∃ (d:(Nat->Bool)),k=(.agg (List.toArray (boolsR 256 d)))/\Does (env Tryz.prog) 50 [] l fun m i=>∃ (e:Nat) (f:(OA)) (g h:Nat),m=(.agg #[.map (some e),.slice f g h])/\∀ (a:Nat),((i a):(Option (Ent)))=none->Does (env Tryz.prog) 51 [(.int .i64 (p0n:Int))] (KH.new i a (mkEnt (Array.toList (List.toArray ([(Value.slice p0 p0n p0c)]++(boolsR 256 d)++[Value.map (some e),.slice f g h]))) 0)) fun n o=>∃ (b c:Nat),n=(.pointer (some ⟨b,c,none⟩))/\Does (env Tryz.prog) 52 [.pointer (some ⟨b,c,none⟩),.int .i64 0] o fun p q=>p=(.tuple #[])/\Does (env Tryz.prog) 53 [.pointer (some ⟨a,0,none⟩),.pointer (some ⟨b,c,none⟩)] q fun r s=>∃ (j:Int),r=(.int .i64 j)/\Q (.pointer (some ⟨a,0,none⟩)) s
theorem fn32 (ok:EnvOk (env Tryz.prog)) {p0:OA} {p0n p0c:Nat} {H:KH} {Q:PQ} (h:vc32 p0 p0n p0c H Q):Does (env Tryz.prog) 32 [.slice p0 p0n p0c] H Q :=
 wFun_sound (W:=W32 Tryz.prog) ok.tt (blt_lt (by kernel_rfl)) (ff_of ok (by kernel_rfl) Tryz.func32) (Eq.mpr (by kernel_rfl) h)
def W33 (P:Program):WE:=⟨env P,tupT,[3],mkTab [(0,[.tmp 0 .ptr,.tmp 4 .ptr,.tmp 5 .slice,.tmp 6 .ptr,.tmp 7 (.int .i64),.tmp 15 (.int .i64)])],33⟩
def vc33_J0 (y1 y2:Int) (y3:KH) (y4 y5 y6:Nat) (y7:(Nat->(Nat->(Nat->(Nat->(Nat->(OA->(Nat->(Nat->(Nat->(Nat->(Int->(Int->(KH->Prop)))))))))))))) (y8 y9 y10 y11:Nat) (y12:OA) (y13 y14:Nat):Prop :=
 ((none:(Option Nat))=none/\((0:Int)<=y1/\y1<(256:Int))/\(none:(Option Nat))=none/\(∃ (a:(List Value)),((List.length a):Nat)=(List.length [(Value.int .i64 y2)])/\ld y3 ⟨y4,(y5+0)+((Int.toNat y1)*1),none⟩ a)/\KH.may y3 y4/\∃ (b:Nat),(b:Nat)<y6/\(none:(Option Nat))=none/\(none:(Option Nat))=none/\(none:(Option Nat))=none/\y7 b y8 y9 y10 y11 y12 y13 y14 y4 y5 y2 (IntKind.wrap .i64 (y1+1)) (KH.put y3 ⟨y4,(y5+0)+((Int.toNat y1)*1),none⟩ [(.int .i64 y2)]))
def vc33_L3 (y1 y2 y3:Nat) (y4:OA) (y5 y6 y7:Nat) (y8:KH) (y9:Int) (y10:PQ):Prop :=
 (∃ (g:(Nat->Nat->Nat->Nat->Nat->OA->Nat->Nat->Nat->Nat->Int->Int->KH->Prop)),(∃ (v:Nat),(none:(Option Nat))=none/\(none:(Option Nat))=none/\(none:(Option Nat))=none/\g v y1 y2 y3 0 y4 y5 y6 y7 0 (-1) 0 (KH.put (KH.new y8 y7 (mkEnt (List.replicate 257 (Value.int .i64 0)) 0)) ⟨y7,0,none⟩ (Array.toList (List.toArray ((List.replicate 256 (Value.int .i64 0))++[(Value.int .i64 y9)])))))/\∀ (n e f c d:Nat) (h:(OA)) (i j k l:Nat) (p a:Int),∀ (b:KH),g n e f c d h i j k l p a b->(decide (a<256)=true->(none:(Option Nat))=none/\((0:Int)<=a/\a<(256:Int))/\(none:(Option Nat))=none/\∃ (o:Bool),ld b ⟨e,(f+1)+((Int.toNat a)*1),none⟩ [(.bool o)]/\(o=true->Does (env Tryz.prog) 56 [.pointer (some ⟨e,f,none⟩),.slice h i j,.int .u8 (IntKind.wrap .u8 a)] b fun w x=>∃ (q r:Nat),w=(.pointer (some ⟨q,r,none⟩))/\Does (env Tryz.prog) 53 [.pointer (some ⟨e,f,none⟩),.pointer (some ⟨q,r,none⟩)] x fun y z=>∃ (s:Int),y=(.int .i64 s)/\vc33_J0 a s z k l n g e f c d h i j)/\(o=false->vc33_J0 a p b k l n g e f c d h i j))/\(decide (a<256)=false->∃ (m:(Nat->Int)),ld b ⟨k,l,none⟩ ((intsR .i64 257 m)++[])/\(∃ (t:(List Value)),((List.length t):Nat)=(List.length (Array.toList (List.toArray (intsR .i64 257 m))))/\ld b ⟨c,d,none⟩ t)/\KH.may b c/\∃ (u:(Nat->Int)),ld (KH.put b ⟨c,d,none⟩ (Array.toList (List.toArray (intsR .i64 257 m)))) ⟨c,d,none⟩ ((intsR .i64 257 u)++[])/\y10 (.agg (List.toArray (intsR .i64 257 u))) (KH.put b ⟨c,d,none⟩ (Array.toList (List.toArray (intsR .i64 257 m))))))
def vc33 (p0b p0o:Nat) (p1_0:ByteArray) (H:KH) (Q:PQ):Prop :=
 (∀ (c:Nat),((H c):(Option (Ent)))=none->Does (env Tryz.prog) 54 [(.agg #[(.string p1_0)])] (KH.new H c (mkEnt (List.replicate 257 (Value.int .i64 0)) 0)) fun i j=>∃ (d:(OA)) (e f:Nat),i=(.slice d e f)/\Does (env Tryz.prog) 55 [.pointer (some ⟨p0b,p0o,none⟩),.slice d e f] j fun k b=>∃ (g:Int),k=(.int .i64 g)/\∀ (a:Nat),((b a):(Option (Ent)))=none->(∃ (h:(List Value)),((List.length h):Nat)=(List.length (Array.toList (List.toArray ((List.replicate 256 (Value.int .i64 0))++[(Value.int .i64 g)]))))/\ld (KH.new b a (mkEnt (List.replicate 257 (Value.int .i64 0)) 0)) ⟨a,0,none⟩ h)/\KH.may (KH.new b a (mkEnt (List.replicate 257 (Value.int .i64 0)) 0)) a/\vc33_L3 p0b p0o c d e f a b g Q)
theorem fn33 (ok:EnvOk (env Tryz.prog)) {p0b p0o:Nat} {p1_0:ByteArray} {H:KH} {Q:PQ} (h:vc33 p0b p0o p1_0 H Q):Does (env Tryz.prog) 33 [.pointer (some ⟨p0b,p0o,none⟩),.agg #[.string p1_0]] H Q :=
 wFun_sound (W:=W33 Tryz.prog) ok.tt (blt_lt (by kernel_rfl)) (ff_of ok (by kernel_rfl) Tryz.func33) (Eq.mpr (by kernel_rfl) h)
def W22 (P:Program):WE:=⟨env P,tupT,[],mkTab [(0,[.tmp 3 .ptr,.tmp 4 .slice,.tmp 5 (.int .i64)])],22⟩
def vc22_L1 (y1 y2:Nat) (y3:KH) (y4:PQ):Prop :=
 (∃ (i:(Nat->Nat->Nat->OA->Nat->Nat->Int->KH->Prop)),(∃ (ab:Nat),(none:(Option Nat))=none/\i ab y1 y2 none 0 0 0 y3)/\∀ (o b c:Nat) (j:(OA)) (k l:Nat) (a:Int) (d:KH),i o b c j k l a d->(none:(Option Nat))=none/\(none:(Option Nat))=none/\∃ (ac:(OA)) (m ad:Nat),ld d ⟨b,(c+257)+1,none⟩ [(.slice ac m ad)]/\(decide (a<(m:Int))=true->(none:(Option Nat))=none/\(none:(Option Nat))=none/\∃ (p:(OA)) (q ae:Nat),ld d ⟨b,(c+257)+1,none⟩ [(.slice p q ae)]/\((0:Int)<=a/\a<(q:Int))/\∃ (r s:Nat),p=some ⟨r,s,none⟩/\∃ (t:ByteArray),ld d ⟨r,s+((Int.toNat a)*1),none⟩ [(.string t)]/\Does (env Tryz.prog) 33 [.pointer (some ⟨b,c,none⟩),.agg #[(.string t)]] d fun ah h=>∃ (f:(Nat->Int)),ah=(.agg (List.toArray (intsR .i64 257 f)))/\∀ (e:Nat),((h e):(Option (Ent)))=none->∀ (u:Nat),(((KH.new h e (mkEnt (intsR .i64 257 f) 0)) u):(Option (Ent)))=none->∃ (v:Nat) (w:(List Value)),((knew (KH.new h e (mkEnt (intsR .i64 257 f) 0)) ⟨257,2056,true,3,0,0,[(0,256),(256,1)],List.replicate 257 (Value.int .i64 0)⟩ (.slice (some ⟨e,0,none⟩) 1 1)):(Option (Nat × (List Value))))=(some (v,w))/\∃ (x:(OA)) (y z:Nat) (g:KH),((kappend (KH.new h e (mkEnt (intsR .i64 257 f) 0)) u ⟨257,2056,true,3,0,0,[(0,256),(256,1)],List.replicate 257 (Value.int .i64 0)⟩ j k l v w):(Option (Value × KH)))=(some (.slice x y z,g))/\(none:(Option Nat))=none/\(none:(Option Nat))=none/\∃ (af:(OA)) (n ag:Nat),ld g ⟨b,(c+257)+1,none⟩ [(.slice af n ag)]/\(decide ((300:Int)<(n:Int))=true->y4 (.slice none 0 0) g)/\(decide ((300:Int)<(n:Int))=false->∃ (aa:Nat),(aa:Nat)<o/\(none:(Option Nat))=none/\i aa b c x y z (IntKind.wrap .i64 (a+1)) g))/\(decide (a<(m:Int))=false->y4 (.slice j k l) d))
def vc22 (p0:OA) (p0n p0c:Nat) (H:KH) (Q:PQ):Prop :=
 ((decide ((p0n:Int)=0)=true->Q (.slice none 0 0) H)/\(decide ((p0n:Int)=0)=false->Does (env Tryz.prog) 32 [(.slice p0 p0n p0c)] H fun c d=>∃ (a b:Nat),c=(.pointer (some ⟨a,b,none⟩))/\vc22_L1 a b d Q))
theorem fn22 (ok:EnvOk (env Tryz.prog)) {p0:OA} {p0n p0c:Nat} {H:KH} {Q:PQ} (h:vc22 p0 p0n p0c H Q):Does (env Tryz.prog) 22 [.slice p0 p0n p0c] H Q :=
 wFun_sound (W:=W22 Tryz.prog) ok.tt (blt_lt (by kernel_rfl)) (ff_of ok (by kernel_rfl) Tryz.func22) (Eq.mpr (by kernel_rfl) h)
end Va
end Go.Proofs.YtfhjkkbaghanhaaGreat
namespace Go.Ew
open Go.Ev Go.Deep
theorem bytes_loop (bs:ByteArray):∀ (n i:Nat) (r:List UInt8),n=bs.size-i->ByteArray.toList.loop bs i r=r.reverse++bs.data.toList.drop i
 | 0,i,r,h=>by
   rw [ByteArray.toList.loop,if_neg (by omega),List.drop_eq_nil_of_le (by show bs.size<=i; omega),List.append_nil]
 | n+1,i,r,h=>by
   have hi:i<bs.size:=by omega
   have hl:i<bs.data.toList.length:=hi
   rw [ByteArray.toList.loop,if_pos hi,bytes_loop bs n (i+1) _ (by omega),List.drop_eq_getElem_cons hl]
   have:bs.get! i=bs.data.toList[i]:=by
    have hd:i<bs.data.size:=hi
    show bs.data[i]! = _
    rw [getElem!_pos bs.data i hd]
    simp
   rw [this]
   simp
theorem bytes_list (bs:ByteArray):bs.toList=bs.data.toList:=by
 unfold ByteArray.toList
 rw [bytes_loop bs _ 0 [] rfl]
 simp
theorem strEq_iff {x y:ByteArray}:strEq x y=true↔x=y:=by
 unfold strEq
 rw [bytes_list,bytes_list,beq_iff_eq]
 constructor
 .intro h
  obtain ⟨⟨a⟩⟩:=x
  obtain ⟨⟨b⟩⟩:=y
  have h:a=b:=h
  rw [h]
 .intro h; rw [h]
theorem strB_inj {a b:List Int} (ha:∀ x∈a,0<=x/\x<=255) (hb:∀ x∈b,0<=x/\x<=255) (h:strB a=strB b):a=b:=by
 have hl:a.length=b.length:=by rw [<- strB_size a,h,strB_size]
 apply List.ext_getElem?
 intro i
 by_cases hi:i<a.length
 .have e1:a[i]? = some a[i]:=by simp [hi]
  have e2:b[i]? = some (b[i]'(by omega)):=by simp [hl ▸ hi]
  have h1:=strB_at e1 (ha _ (List.getElem_mem hi))
  have h2:=strB_at e2 (hb _ (List.getElem_mem (by omega)))
  rw [h] at h1
  rw [e1,e2,<- h1,<- h2]
 .rw [List.getElem?_eq_none (by omega),List.getElem?_eq_none (by omega)]
def txE:List ByteArray->Nat->List (Value × Value)
 | [],_=>[]
 | s :: l,i=>(.agg #[.string s],.int .i64 ((i:Nat):Int)) :: txE l (i+1)
theorem txE_app:∀ (l:List ByteArray) (s:ByteArray) (i:Nat),txE (l++[s]) i=txE l i++[(.agg #[.string s],.int .i64 ((i+l.length:Nat):Int))]
 | [],s,i=>rfl
 | t :: l,s,i=>by
   simp only [List.cons_append,txE,txE_app l s (i+1),List.length_cons]
   rw [show i+1+l.length=i+(l.length+1) by omega]
theorem eq_tx {P:Program} {t:TypeId} (hk:∀ s:ByteArray,strK P t [.string s]=true) (s u:ByteArray):srun P (Op.equal t (.agg #[.string s]) (.agg #[.string u]))=some (strEq s u):=by
 have h:eqCs [.string s] [.string u]=some (strEq s u&&true):=rfl
 rw [Bool.and_true] at h
 exact (strK_run (op:=.eql) (x:=.tmp 0) (y:=.tmp 0) (xs:=#[.string s]) (ys:=#[.string u]) (hk s) h).1
theorem find_tx {P:Program} {t:TypeId} (hk:∀ s:ByteArray,strK P t [.string s]=true) (u:ByteArray):∀ (l:List ByteArray) (i j k:Nat),l[k]? = some u->(∀ j,j<k->l[j]?≠some u)->kFind P t (.agg #[.string u]) (txE l i) j=some (some (j+k,.int .i64 ((i+k:Nat):Int)))
 | [],i,j,k,h,_=>by simp at h
 | s :: l,i,j,0,h,_=>by
   have h:s=u:=by simpa using h
   subst h
   have he:strEq s s=true:=strEq_iff.2 rfl
   simp only [txE,kFind,eq_tx hk,he]
   rfl
 | s :: l,i,j,k+1,h,hn=>by
   have hs:strEq u s=false:=by
    cases hq:strEq u s with
    | false=>rfl
    | true=>exact absurd (by rw [strEq_iff.1 hq]; rfl) (hn 0 (by omega))
   have:=find_tx hk u l (i+1) (j+1) k (by simpa using h) fun q hq=>by
    have:=hn (q+1) (by omega)
    simpa using this
   simp only [txE,kFind,eq_tx hk,hs,this]
   rw [show j+1+k=j+(k+1) by omega,show i+1+k=i+(k+1) by omega]
theorem find_no {P:Program} {t:TypeId} (hk:∀ s:ByteArray,strK P t [.string s]=true) (u:ByteArray):∀ (l:List ByteArray) (i j:Nat),u∉l->kFind P t (.agg #[.string u]) (txE l i) j=some none
 | [],i,j,_=>rfl
 | s :: l,i,j,h=>by
   have hs:strEq u s=false:=by
    cases hq:strEq u s with
    | false=>rfl
    | true=>exact absurd (by rw [strEq_iff.1 hq]; simp) h
   have:=find_no hk u l (i+1) (j+1) fun z=>h (by simp [z])
   simp only [txE,kFind,eq_tx hk,hs,this]
end Go.Ew
namespace Go.Proofs.YtfhjkkbaghanhaaGreat
open Go.Ev Go.Ew
namespace Va
theorem key74 (s:ByteArray):strK Tryz.prog 97 [.string s]=true:=by kernel_rfl
theorem good74 (b:Bool) (s:ByteArray):keyGood Tryz.prog b 97 (.agg #[.string s])=true:=by cases b<;>kernel_rfl
theorem zero3:srun Tryz.prog (zeroValue 3)=some (.int .i64 0):=by kernel_rfl
end Va
end Go.Proofs.YtfhjkkbaghanhaaGreat
namespace Go.Ew
open Go.Ev Go.Deep
theorem mid {A B:List Value} {x:Value} {n:Nat} (h:A.length=n):((A++[x]++B).drop n).take 1=[x]:=by
 subst h
 rw [List.append_assoc,List.drop_left]
 rfl
theorem tx_first {α:Type} [DecidableEq α] {u:α}:∀ {l:List α},u∈l->∃ k:Nat,l[k]? = some u/\∀ j:Nat,j<k->l[j]?≠some u
 | [],h=>by cases h
 | s :: l,h=>by
   by_cases hs:s=u
   .exact ⟨0,by simp [hs],fun j hj=>by omega⟩
   .have h:u∈l:=by
     rcases List.mem_cons.1 h with z | z
     .exact absurd z.symm hs
     .exact z
    obtain ⟨k,h1,h2⟩:=tx_first h
    refine ⟨k+1,by simpa using h1,fun j hj=>?_⟩
    cases j with
    | zero=>simpa using hs
    | succ j=>simpa using h2 j (by omega)
def keyC (ts:List ByteArray):List Value:=ts.map .string
theorem keyC_at {ts:List ByteArray} {k:Nat} {t:ByteArray} (h:ts[k]? = some t):((keyC ts).drop (k*1)).take 1=[.string t]:=dropTake rfl fun j hj=>by
 match j,hj with
 | 0,_=>simp [keyC,h]
abbrev KT1:TI:=⟨1,16,true,3,0,0,[(0,1)],[.string (ByteArray.mk #[])]⟩
structure KyB (H:KH) (w mp:Nat) (S:List St) (a:OA) (c:Nat) (tf:Nat->Bool) (ka:OA) (kc:Nat) (ex:List Value) (ts:List ByteArray):Prop where
 pt:∃ e,H w=some e/\wrB e=true/\rd e.cells 0 259=some ([.slice a S.length c]++boolsR 256 tf++[.map (some mp)]++[.slice ka ts.length kc])
 es:H mp=some (mpE (txE ts 0))
 row:Gr H 1 ka ts.length kc (keyC ts) ex
 d1:w≠mp
 d2:blk ka≠some w
 d3:blk ka≠some mp
section
variable {H : KH} {w mp : Nat} {S : List St} {a : OA} {c : Nat} {tf : Nat -> Bool} {ka : OA} {kc : Nat} {ex : List Value} {ts : List ByteArray}
theorem KyB.all (h:KyB H w mp S a c tf ka kc ex ts):ld H ⟨w,0,none⟩ ([.slice a S.length c]++boolsR 256 tf++[.map (some mp)]++[.slice ka ts.length kc]):=by
 obtain ⟨e,h1,h2,h3⟩:=h.pt
 exact ⟨rfl,e,h1,by simpa [boolsR_len] using h3⟩
theorem KyB.c0 (h:KyB H w mp S a c tf ka kc ex ts):ld H ⟨w,0+0,none⟩ [.slice a S.length c]:=by
 have:=ldSub h.all 0 1 (by simp [boolsR_len])
 simpa using this
theorem KyB.c257 (h:KyB H w mp S a c tf ka kc ex ts):ld H ⟨w,257,none⟩ [.map (some mp)]:=by
 have:=ldSub h.all 257 1 (by simp [boolsR_len])
 rw [mid (n:=257) (x:=Value.map (some mp)) (A:=[Value.slice a S.length c]++boolsR 256 tf) (B:=[Value.slice ka ts.length kc]) (by simp [boolsR_len])] at this
 simpa using this
theorem KyB.c258 (h:KyB H w mp S a c tf ka kc ex ts):ld H ⟨w,258,none⟩ [.slice ka ts.length kc]:=by
 have:=ldSub h.all 258 1 (by simp [boolsR_len])
 have e:([Value.slice a S.length c]++boolsR 256 tf++[.map (some mp)]++[.slice ka ts.length kc])=([Value.slice a S.length c]++boolsR 256 tf++[.map (some mp)])++[.slice ka ts.length kc]++[]:=by simp
 rw [e,mid (by simp [boolsR_len])] at this
 simpa using this
theorem KyB.turn (h:KyB H w mp S a c tf ka kc ex ts) {i:Nat} (hi:i<256):ld H ⟨w,0+1+i*1,none⟩ [.bool (tf i)]:=by
 have:=ldSub h.all (1+i) 1 (by simp [boolsR_len]; omega)
 have e:([Value.slice a S.length c]++boolsR 256 tf++[.map (some mp)]++[.slice ka ts.length kc])=([Value.slice a S.length c]++(boolsR 256 tf).take i)++[.bool (tf i)]++((boolsR 256 tf).drop (i+1)++[.map (some mp)]++[.slice ka ts.length kc]):=by
  have h2:boolsR 256 tf=(boolsR 256 tf).take i++[.bool (tf i)]++(boolsR 256 tf).drop (i+1):=by
   rw [List.append_assoc]
   have hl:i<(boolsR 256 tf).length:=by rw [boolsR_len]; exact hi
   have h3:[.bool (tf i)]++(boolsR 256 tf).drop (i+1)=(boolsR 256 tf).drop i:=by
    rw [List.drop_eq_getElem_cons hl]
    simp [boolsR]
   rw [h3,List.take_append_drop]
  conv=>lhs; rw [h2]
  simp only [List.append_assoc]
 rw [e,mid (by simp [boolsR_len]; omega)] at this
 have e2:0+(1+i)=0+1+i*1:=by omega
 rw [e2] at this
 exact this
end
def KIn (BB:List Nat) (H:KH) (w:Nat) (S:List St) (a:OA) (c:Nat) (tf:Nat->Bool) (ts:List ByteArray):Prop:=∃ mp ka kc ex,KyB H w mp S a c tf ka kc ex ts/\BB=w :: mp :: (blk ka).toList
section
variable {BB : List Nat} {H H' : KH} {w : Nat} {S : List St} {a : OA} {c : Nat} {tf : Nat -> Bool} {ts : List ByteArray}
theorem KIn.known (h:KIn BB H w S a c tf ts):∀ b∈BB,∃ e,H b=some e:=by
 obtain ⟨mp,ka,kc,ex,hs,rfl⟩:=h
 intro b hb
 rcases List.mem_cons.1 hb with z | hb
 .obtain ⟨e,h1,_⟩:=hs.pt; exact ⟨e,by rw [z]; exact h1⟩
 rcases List.mem_cons.1 hb with z | hb
 .exact ⟨_,by rw [z]; exact hs.es⟩
 .have:blk ka=some b:=by simpa using hb
  exact hs.row.at' this
theorem KIn.agree (h:KIn BB H w S a c tf ts) (hk:∀ k e,k∈BB->H k=some e->H' k=some e):KIn BB H' w S a c tf ts:=by
 obtain ⟨mp,ka,kc,ex,hs,rfl⟩:=h
 obtain ⟨e1,a1,a2,a3⟩:=hs.pt
 exact ⟨mp,ka,kc,ex,⟨⟨e1,hk w e1 (by simp) a1,a2,a3⟩,hk mp _ (by simp) hs.es,hs.row.agree fun k e z1 z2=>hk k e (by simp [z1]) z2,hs.d1,hs.d2,hs.d3⟩,rfl⟩
theorem KIn.up (h:KIn BB H w S a c tf ts) (hl:Le H H'):KIn BB H' w S a c tf ts:=h.agree fun k e _ q=>hl k e q
theorem KIn.bds (h:KIn BB H w S a c tf ts) (hst:SsN H S a):BdS H w S a c:=⟨hst,fun H' hl=>by
 obtain ⟨mp,ka,kc,ex,hs,rfl⟩:=h
 exact hl.ld hs.c0⟩
end
theorem SsN.mono {X Y:KH} {S:List St} {a:OA} (hl:Le X Y) (h:SsN X S a):SsN Y S a:=by
 obtain ⟨cs,h1,h2⟩:=h
 exact ⟨cs,hl.kold h1,h2.mono hl⟩
end Go.Ew
namespace Go.Proofs.YtfhjkkbaghanhaaGreat
open Go.Ev Go.Ew
namespace Va
section
variable (ok : EnvOk (env Tryz.prog))
include ok
theorem c75 {BB:List Nat} {H:KH} {w:Nat} {S:List St} {a:OA} {c:Nat} {tf:Nat->Bool} {ts:List ByteArray} {u:ByteArray} {Q:PQ} (h:KIn BB H w S a c tf ts) (hl:ts.length<=900)
 (h1:∀ k,ts[k]? = some u->Q (.int .i64 ((k:Nat):Int)) H)
 (h2:u∉ts->∀ BB' H',KIn BB' H' w S a c tf (ts++[u])->Fr1 BB BB' H H'->Q (.int .i64 ((ts.length:Nat):Int)) H'):Does (env Tryz.prog) 75 [.pointer (some ⟨w,257,none⟩),.agg #[.string u]] H Q:=by
 obtain ⟨mp,ka,kc,ex,hs,rfl⟩:=h
 refine fn75 ok ⟨trivial,rfl,mp,hs.c257,txE ts 0,⟨hs.es⟩,?_⟩
 by_cases hu:u∈ts
 .obtain ⟨k,hk,hmin⟩:=tx_first hu
  have hf:=find_tx key74 u ts 0 0 k hk hmin
  rw [Nat.zero_add] at hf
  exact .inr ⟨k,⟨good74 _ _,_,hf⟩,(fun z=>by cases z),fun _=>h1 k hk⟩
 refine .inl ⟨⟨good74 _ _,find_no key74 u ts 0 0 hu,zero3⟩,fun _=>?_,(fun z=>by cases z)⟩
 obtain ⟨ew,w1,w2,w3⟩:=hs.pt
 have heq:txE (ts++[u]) 0=txE ts 0++[(.agg #[.string u],.int .i64 ((ts.length:Nat):Int))]:=by rw [txE_app,Nat.zero_add]
 have kp0:∀ k e,H k=some e->k≠mp->(H.new mp (mpE (txE (ts++[u]) 0))) k=some e:=fun k e q hk=>by simp only [KH.new]; rw [if_neg hk]; exact q
 have hw1:=kp0 w ew w1 hs.d1
 have hc258:ld (H.new mp (mpE (txE (ts++[u]) 0))) ⟨w,258,none⟩ [.slice ka ts.length kc]:=by
  obtain ⟨s1,e,s2,s3⟩:=hs.c258
  rw [w1] at s2; cases s2
  exact ⟨s1,ew,hw1,s3⟩
 refine ⟨rfl,ka,_,kc,hs.c258,trivial,rfl,mp,hs.c257,txE ts 0,txE (ts++[u]) 0,⟨hs.es⟩,⟨good74 _ _,.inl ⟨find_no key74 u ts 0 0 hu,heq⟩⟩,trivial,trivial,rfl,ka,_,kc,hc258,fun n12 h12 n13 h13=>?_⟩
 have h12:(H.new mp (mpE (txE (ts++[u]) 0))) n12=none:=h12
 have l12:=Le.new (e:=mkEnt [.string u] 0) h12
 have h13':(H.new mp (mpE (txE (ts++[u]) 0))) n13=none:=l12.none h13
 have hrow:Gr ((H.new mp (mpE (txE (ts++[u]) 0))).new n12 (mkEnt [.string u] 0)) 1 ka ts.length kc (keyC ts) ex:=hs.row.agree fun k e z1 z2=>l12 k e (kp0 k e z2 fun z=>hs.d3 (by rw [z1,z]))
 obtain ⟨a',H',ex',f1,f2,_,f4,f5⟩:=hrow.append (ti:=KT1) (new:=[.string u]) h13 rfl (by omega) (by decide) (by decide)
 have hnn:∀ n,(H.new mp (mpE (txE (ts++[u]) 0))) n=none->H n=none/\n≠mp:=fun n q=>by
  by_cases hm:n=mp
  .subst hm; simp [KH.new] at q
  .simp only [KH.new] at q; rw [if_neg hm] at q; exact ⟨q,hm⟩
 have kp1:∀ k e,H k=some e->k≠mp->blk ka≠some k->H' k=some e:=fun k e z1 z2 z3=>f4 k e (l12 k e (kp0 k e z1 z2)) z3
 have hmp':H' mp=some (mpE (txE (ts++[u]) 0)):=f4 mp _ (l12 mp _ (by simp [KH.new])) hs.d3
 have hw':H' w=some ew:=kp1 w ew w1 hs.d1 hs.d2
 have ha':∀ b,blk a'=some b->b≠w/\b≠mp/\(blk ka=some b\/H b=none):=fun b z=>by
  rcases f5 b z with u1 | u1
  .exact ⟨fun v=>hs.d2 (by rw [u1,v]),fun v=>hs.d3 (by rw [u1,v]),.inl u1⟩
  .subst u1
   have:=hnn b h13'
   exact ⟨fun v=>(by rw [v,w1] at this; cases this.1),this.2,.inr this.1⟩
 have hw2:ld H' ⟨w,257+1,none⟩ [.slice ka ts.length kc]:=by
  obtain ⟨s1,e,s2,s3⟩:=hs.c258
  rw [w1] at s2; cases s2
  exact ⟨s1,ew,hw',s3⟩
 refine ⟨1,_,knew_of (lit_kold (if_pos rfl) rfl),a',_,_,H',f1,⟨rfl,trivial⟩,rfl,stOk hw2 rfl,⟨ew,hw',w2⟩,trivial,?_⟩
 have hlen:(ts++[u]).length=ts.length+1:=by simp
 refine h2 hu (w :: mp :: (blk a').toList) _ ⟨mp,a',unkU,ex',⟨⟨⟨wr ew.cells (257+1) [.slice a' (ts.length+1) unkU],ew.len,ew.unk,none⟩,by simp only [KH.put,if_true,hw',Option.map_some],wrB_keep w2,?_⟩,put_ne hs.d1.symm hmp',?_,hs.d1,fun z=>(ha' w z).1 rfl,fun z=>(ha' mp z).2.1 rfl⟩,rfl⟩ ⟨fun k e z1 z2=>?_,fun b z=>?_⟩
 .rw [hlen]
  have:=rdWr (e:=ew.cells) (N:=259) (o:=257+1) (xs:=[.slice a S.length c]++boolsR 256 tf++[.map (some mp)]) (ys:=[.slice ka ts.length kc]) (zs:=[]) (vs:=[.slice a' (ts.length+1) unkU]) (by simpa using w3) (by simp [boolsR_len]) rfl
  simpa using this
 .have hn:keyC (ts++[u])=keyC ts++[.string u]:=by simp [keyC]
  rw [hlen,hn]
  exact f2.agree fun k e z1 z2=>put_ne (fun z=>(ha' k z1).1 z) z2
 .have n1:k≠w:=fun q=>z2 (by simp [q])
  have n2:k≠mp:=fun q=>z2 (by simp [q])
  have n3:blk ka≠some k:=fun q=>z2 (by simp [q])
  exact put_ne n1 (kp1 k e z1 n2 n3)
 .rcases List.mem_cons.1 z with q | z
  .exact .inl (by simp [q])
  rcases List.mem_cons.1 z with q | z
  .exact .inl (by simp [q])
  .have z:blk a'=some b:=by simpa using z
   rcases (ha' b z).2.2 with v | v
   .exact .inl (by simp [v])
   .exact .inr v
end
end Va
end Go.Proofs.YtfhjkkbaghanhaaGreat
namespace Go.Ew
open Go.Ev Go.Deep
def TurnP (S:List St) (i:Nat):Prop:=∃ s∈S,s.lo=(i:Nat)\/s.hi+1=(i:Nat)
def ByteS (S:List St):Prop:=∀ s∈S,(0<=s.lo/\s.lo<=255)/\0<=s.hi/\s.hi<=255
def setF (f:Nat->Bool) (i:Nat):Nat->Bool:=fun j=>if j=i then true else f j
theorem boolsR_set (f:Nat->Bool) {i:Nat} (hi:i<256):(boolsR 256 f).take i++[.bool true]++(boolsR 256 f).drop (i+1)=boolsR 256 (setF f i):=by
 have hl:=boolsR_len 256 f
 apply List.ext_getElem?
 intro j
 have key:∀ g:Nat->Bool,(boolsR 256 g)[j]? = if j<256 then some (.bool (g j)) else none:=fun g=>by
  by_cases h:j<256
  .rw [if_pos h]; simp [boolsR,h]
  .rw [if_neg h,List.getElem?_eq_none (by rw [boolsR_len]; omega)]
 rw [key,List.append_assoc]
 by_cases h1:j<i
 .rw [List.getElem?_append_left (by simp [hl]; omega),List.getElem?_take_of_lt h1,key,if_pos (by omega),if_pos (by omega)]
  unfold setF
  rw [if_neg (by omega)]
 .rw [List.getElem?_append_right (by simp [hl]; omega)]
  have hm:min i 256=i:=by omega
  simp only [List.length_take,hl,hm]
  by_cases h2:j=i
  .subst h2
   rw [Nat.sub_self,if_pos hi]
   simp [setF]
  .obtain ⟨d,hd⟩:∃ d,j-i=d+1:=⟨j-i-1,by omega⟩
   rw [hd]
   simp only [List.cons_append,List.nil_append,List.getElem?_cons_succ,List.getElem?_drop]
   have:i+1+d=j:=by omega
   rw [this,key]
   unfold setF
   rw [if_neg h2]
theorem boolsR_drop {n i:Nat} (f:Nat->Bool) (h:i<n):(boolsR n f).drop i = .bool (f i) :: (boolsR n f).drop (i+1):=by
 have hl:i<(boolsR n f).length:=by rw [boolsR_len]; exact h
 rw [List.drop_eq_getElem_cons hl]
 simp [boolsR]
theorem boolsR_rep (n:Nat) (b:Bool):boolsR n (fun _=>b)=List.replicate n (.bool b):=by
 unfold boolsR
 rw [List.map_const',List.length_range]
theorem rd_mk (cs:List Value) (u:Nat):rd (mkEnt cs u).cells 0 cs.length=some cs:=rd_some rfl fun j v hv=>by rw [Nat.zero_add]; simp only [mkEnt,tget_wr_nil]; exact hv
def TfB (K:KH) (n:Nat) (f:Nat->Bool) (H:KH):Prop:=∃ e:Ent,H=K.new n e/\wrB e=true/\rd e.cells 0 256=some (boolsR 256 f)
theorem TfB.at_ {K H:KH} {n:Nat} {f:Nat->Bool} (h:TfB K n f H) {i:Nat} (hi:i<256):ld H ⟨n,0+i*1,none⟩ [.bool (f i)]:=by
 obtain ⟨e,rfl,h1,h2⟩:=h
 have hl:ld (K.new n e) ⟨n,0,none⟩ (boolsR 256 f):=⟨rfl,e,if_pos rfl,by simpa [boolsR_len] using h2⟩
 have:=ldSub hl (i*1) 1 (by rw [boolsR_len]; omega)
 have h3:((boolsR 256 f).drop (i*1)).take 1=[.bool (f i)]:=by
  rw [Nat.mul_one,boolsR_drop f hi]
  rfl
 rw [h3] at this
 exact this
theorem TfB.may {K H:KH} {n:Nat} {f:Nat->Bool} (h:TfB K n f H):KH.may H n:=by
 obtain ⟨e,rfl,h1,h2⟩:=h
 exact ⟨⟨e,if_pos rfl,h1⟩⟩
theorem TfB.all {K H:KH} {n:Nat} {f:Nat->Bool} (h:TfB K n f H):ld H ⟨n,0,none⟩ (boolsR 256 f):=by
 obtain ⟨e,rfl,h1,h2⟩:=h
 exact ⟨rfl,e,if_pos rfl,by simpa [boolsR_len] using h2⟩
theorem put_newT {K:KH} {p o:Nat} {e:Ent} {vs:List Value}:(K.new p e).put ⟨p,o,none⟩ vs=K.new p ⟨wr e.cells o vs,e.len,e.unk,none⟩:=by
 funext k
 simp only [KH.put,KH.new]
 by_cases h:k=p<;>simp [h]
theorem TfB.put {K H:KH} {n:Nat} {f:Nat->Bool} (h:TfB K n f H) {i:Nat} (hi:i<256):TfB K n (setF f i) (H.put ⟨n,0+i*1,none⟩ [.bool true]):=by
 obtain ⟨e,rfl,h1,h2⟩:=h
 refine ⟨_,put_newT,wrB_keep h1,?_⟩
 rw [<- boolsR_set f hi]
 have hl:=boolsR_len 256 f
 refine rdWr (ys:=[.bool (f i)]) ?_ (by simp [hl]; omega) rfl
 have h3:(boolsR 256 f).take i++[.bool (f i)]++(boolsR 256 f).drop (i+1)=boolsR 256 f:=by
  have h3:[.bool (f i)]++(boolsR 256 f).drop (i+1)=(boolsR 256 f).drop i:=by
   rw [boolsR_drop f hi]
   rfl
  rw [List.append_assoc,h3,List.take_append_drop]
 rw [h3]; exact h2
theorem TfB.same {K H:KH} {n:Nat} {f:Nat->Bool} (h:TfB K n f H):TfB K n f (H.put ⟨n,0,none⟩ (boolsR 256 f)):=by
 obtain ⟨e,rfl,h1,h2⟩:=h
 refine ⟨_,put_newT,wrB_keep h1,?_⟩
 have:=rdWr (e:=e.cells) (N:=256) (o:=0) (xs:=[]) (ys:=boolsR 256 f) (zs:=[]) (vs:=boolsR 256 f) (by simpa using h2) rfl rfl
 simpa using this
theorem TfB.le {K H:KH} {n:Nat} {f:Nat->Bool} (h:TfB K n f H) (hn:K n=none):Le K H:=by
 obtain ⟨e,rfl,h1,h2⟩:=h
 exact Le.new hn
end Go.Ew
namespace Go.Proofs.YtfhjkkbaghanhaaGreat
open Go.Ev Go.Ew
namespace Va
section
variable (ok : EnvOk (env Tryz.prog))
include ok
theorem c53 {X H:KH} {BB B:List Nat} {w p:Nat} {S:List St} {a:OA} {c:Nat} {tf:Nat->Bool} {ts:List ByteArray} {m:List Nat} {Q:PQ}
 (hst:SsN X S a) (hX:Le X H) (hk:KIn BB H w S a c tf ts) (hd:DrIn B H p m S.length) (hdis:∀ b∈B,b∉BB) (hXB:∀ b∈B,X b=none)
 (hS:S.length<=900000) (hfl:∀ x,(stAt S x).free.length<=1000000) (hl:ts.length<=900)
 (hnil:m=[]->Q (.int .i64 (-1)) H)
 (hq:m≠[]->∀ bs k ts' BB' H',Bits S.length bs (clM S m)->(∀ x∈clM S m,x<S.length)->KIn BB' H' w S a c tf ts'->(∀ k e,H k=some e->k∉BB->k∉B->H' k=some e)->(∀ b∈BB',b∈BB\/b∈B\/H b=none)->
   ((ts'=ts/\ts[k]? = some (strB bs))\/(ts'=ts++[strB bs]/\k=ts.length/\strB bs∉ts))->Q (.int .i64 ((k:Nat):Int)) H') :
 Does (env Tryz.prog) 53 [.pointer (some ⟨w,0,none⟩),.pointer (some ⟨p,0,none⟩)] H Q:=by
 have hd0:=hd
 obtain ⟨bs0,bp,am,cm,ex,hs,hB⟩:=hd
 refine fn53 ok ⟨rfl,am,_,cm,hs.c2,fun hz=>?_,fun hz=>?_⟩
 .exact hnil (List.eq_nil_of_length_eq_zero (by have:=of_decide_eq_true hz; omega))
 have hne:m≠[]:=fun z=>by
  subst z
  have:=of_decide_eq_false hz
  simp at this
 let X1:KH:=fun k=>if k∈B then none else H k
 have hX1:Le X1 H:=fun k e q=>by
  by_cases hb:k∈B
  .simp only [X1,if_pos hb] at q; cases q
  .simp only [X1,if_neg hb] at q; exact q
 have hX1o:∀ b∈B,X1 b=none:=fun b hb=>by simp only [X1,if_pos hb]
 have hX1i:∀ k e,k∉B->H k=some e->X1 k=some e:=fun k e hb q=>by simp only [X1,if_neg hb]; exact q
 have hXX1:Le X X1:=fun k e q=>hX1i k e (fun hb=>by rw [hXB k hb] at q; cases q) (hX k e q)
 have hk1:KIn BB X1 w S a c tf ts:=hk.agree fun k e z1 z2=>hX1i k e (fun hb=>hdis k hb z1) z2
 refine c74 ok (hk1.bds (hst.mono hXX1)) ⟨hX1,hd0,hX1o⟩ hS hfl fun H2 B2 hW=>⟨rfl,trivial,rfl,?_⟩
 have hlt:∀ x∈clM S m,x<S.length:=by
  obtain ⟨_,_,_,_,_,hs2,_⟩:=hW.dr
  exact hs2.lt
 have hk2:KIn BB H2 w S a c tf ts:=hk1.up hW.le
 refine c76 ok hW.dr fun bs hbits=>⟨_,rfl,⟨rfl,rfl,⟨rfl,rfl⟩,trivial⟩,?_⟩
 have nw:∀ b,H2 b=none->b∈B\/H b=none:=fun b hb=>by
  by_cases hB1:b∈B
  .exact .inl hB1
  .rcases none_or H b with q | ⟨e,q⟩
   .exact .inr q
   .rw [hW.le b e (hX1i b e hB1 q)] at hb; cases hb
 refine c75 ok hk2 hl (fun k hk=>⟨_,rfl,trivial,?_⟩) fun hno BB' H' hk' hf=>⟨_,rfl,trivial,?_⟩
 .exact hq hne bs k ts BB H2 hbits hlt hk2 (fun k e z1 _ z3=>hW.le k e (hX1i k e z3 z1)) (fun b hb=>.inl hb) (.inl ⟨rfl,hk⟩)
 .exact hq hne bs ts.length (ts++[strB bs]) BB' H' hbits hlt hk' (fun k e z1 z2 z3=>hf.kp k e (hW.le k e (hX1i k e z3 z1)) z2) (fun b hb=>by
   rcases hf.nw b hb with z | z
   .exact .inl z
   .exact .inr (nw b z)) (.inr ⟨rfl,rfl,hno⟩)
theorem c49 {H:KH} {a:OA} {c:Nat} {S:List St} {Q:PQ} (hst:SsN H S a) (hb:ByteS S) (hS:S.length<=900000)
 (hq:∀ f H',Le H H'->(∀ i,i<256->(f i=true↔TurnP S i))->Q (.agg (List.toArray (boolsR 256 f))) H'):Does (env Tryz.prog) 49 [.slice a S.length c] H Q:=by
 refine fn49 ok fun n1 h1=>?_
 unfold vc49_L2
 have hT0:TfB H n1 (fun _=>false) (H.new n1 (mkEnt (List.replicate 256 (.bool false)) 0)):=by
  refine ⟨_,rfl,rfl,?_⟩
  have:=rd_mk (boolsR 256 fun _=>false) 0
  rw [boolsR_len,boolsR_rep] at this
  rw [boolsR_rep]
  exact this
 refine ⟨fun n3 n4 n5 a6 n7 n8 x9 x10 H11=>n4=n1/\n5=0/\a6=a/\n7=S.length/\x9=(S.length:Nat)/\∃ (k:Nat) (f:Nat->Bool),x10=k/\k<=S.length/\n3=S.length-k/\TfB H n1 f H11/\∀ i,i<256->(f i=true↔TurnP (S.take k) i),⟨S.length,rfl,rfl,rfl,rfl,rfl,rfl,0,_,rfl,by omega,rfl,hT0,fun i hi=>by simp [TurnP]⟩,?_⟩
 rintro n3 n4 n5 a6 n7 n8 x9 x10 H11 ⟨rfl,rfl,rfl,rfl,rfl,k,f,rfl,hk,rfl,hT,hf⟩
 refine ⟨fun hlt=>?_,fun hge=>?_⟩
 .have hlt:k<S.length:=by have:=of_decide_eq_true hlt; omega
  have hsk:S[k]? = some S[k]:=by simp [hlt]
  obtain ⟨⟨lo1,lo2⟩,hi1,hi2⟩:=hb S[k] (List.getElem_mem hlt)
  obtain ⟨cs,g1,g2⟩:=hst
  obtain ⟨b1,o1,z1,r1⟩:=rowAddr ((hT.le h1).kold g1) (by omega)
  obtain ⟨af,cf,g3,g4⟩:=g2.get hsk
  have q1:=r1 (k*5) 5 (by omega)
  rw [g3] at q1
  have e0:Int.toNat ((k:Nat):Int)=k:=by omega
  have wk:IntKind.wrap .i64 (((k:Nat):Int)+1)=((k+1:Nat):Int):=by rw [wrap64 (by omega) (by omega)]; omega
  have hT1:=hT.put (i:=S[k].lo.toNat) (by omega)
  have hstep:∀ i,(TurnP (S.take (k+1)) i↔TurnP (S.take k) i\/(S[k].lo=(i:Nat)\/S[k].hi+1=(i:Nat))):=fun i=>by
   rw [List.take_succ_eq_append_getElem hlt]
   unfold TurnP
   constructor
   .rintro ⟨s,hs,h⟩
    rcases List.mem_append.1 hs with z | z
    .exact .inl ⟨s,z,h⟩
    .have:s=S[k]:=by simpa using z
     subst this; exact .inr h
   .rintro (⟨s,hs,h⟩ | h)
    .exact ⟨s,List.mem_append_left _ hs,h⟩
    .exact ⟨S[k],List.mem_append_right _ (List.mem_singleton.2 rfl),h⟩
  rw [e0,wk]
  refine ⟨⟨by omega,by omega⟩,b1,o1,z1,S[k].lo,S[k].hi,S[k].next,af,S[k].free.length,cf,S[k].e,q1,⟨lo1,by omega⟩,rfl,stOk (hT.at_ (i:=S[k].lo.toNat) (by omega)) rfl,hT.may,fun q2=>?_,fun q2=>?_⟩
  .have q2:=of_decide_eq_true q2
   have w8:IntKind.wrap .u8 (S[k].hi+1)=S[k].hi+1:=by
    exact IntWalk.u8_in _ ⟨by omega,by omega⟩
   rw [w8]
   have hT2:=hT1.put (i:=(S[k].hi+1).toNat) (by omega)
   refine ⟨⟨by omega,by omega⟩,rfl,stOk (hT1.at_ (i:=(S[k].hi+1).toNat) (by omega)) rfl,hT1.may,S.length-(k+1),by omega,rfl,rfl,rfl,rfl,rfl,rfl,k+1,_,rfl,by omega,rfl,hT2,fun i hi=>?_⟩
   rw [hstep,<- hf i hi]
   unfold setF
   by_cases z1:i=(S[k].hi+1).toNat
   .rw [if_pos z1]; simp; right; right; omega
   .rw [if_neg z1]
    by_cases z2:i=S[k].lo.toNat
    .rw [if_pos z2]; simp; right; left; omega
    .rw [if_neg z2]
     constructor
     .exact .inl
     .rintro (z | z | z)
      .exact z
      .omega
      .omega
  .have q2:=of_decide_eq_false q2
   refine ⟨S.length-(k+1),by omega,rfl,rfl,rfl,rfl,rfl,rfl,k+1,_,rfl,by omega,rfl,hT1,fun i hi=>?_⟩
   rw [hstep,<- hf i hi]
   unfold setF
   by_cases z2:i=S[k].lo.toNat
   .rw [if_pos z2]; simp; right; left; omega
   .rw [if_neg z2]
    constructor
    .exact .inl
    .rintro (z | z | z)
     .exact z
     .omega
     .omega
 .have hge:k=S.length:=by have:=of_decide_eq_false hge; omega
  subst hge
  rw [List.take_length] at hf
  have hall:=hT.all
  have hall':ld H11 ⟨n4,0,none⟩ (boolsR 256 f++[]):=by rw [List.append_nil]; exact hall
  have hT2:=hT.same
  refine ⟨f,hall',stOk hall rfl,hT.may,f,by rw [List.append_nil]; exact hT2.all,hq f _ (hT2.le h1) hf⟩
end
end Va
end Go.Proofs.YtfhjkkbaghanhaaGreat
namespace Go.Ew
open Go.Ev Go.Deep
def bitsTo (b:Int) (j i:Nat):List Nat:=((List.range j).filter fun k=>bitB b k).map fun k=>i*8+k
theorem bitsTo_succ (b:Int) (j i:Nat):bitsTo b (j+1) i=bitsTo b j i++if bitB b j=true then [i*8+j] else []:=by
 unfold bitsTo
 rw [List.range_succ,List.filter_append,List.map_append]
 by_cases h:bitB b j=true
 .rw [if_pos h]; simp [h]
 .rw [if_neg h]; simp [h]
theorem bitsTo_len (b:Int) (j i:Nat):(bitsTo b j i).length<=j:=by
 unfold bitsTo
 rw [List.length_map]
 have:=List.length_filter_le (fun k=>bitB b k) (List.range j)
 rw [List.length_range] at this
 exact this
theorem membB_app:∀ (l:List Int) (b:Int) (k:Nat),membB (l++[b]) k=membB l k++bitsTo b 8 (k+l.length)
 | [],b,k=>by simp [membB,bitsTo]
 | x :: l,b,k=>by
   simp only [List.cons_append,membB,membB_app l b (k+1),List.append_assoc,List.length_cons]
   rw [show k+1+l.length=k+(l.length+1) by omega]
theorem membB_take {bs:List Int} {i:Nat} (h:i<bs.length):membB (bs.take (i+1)) 0=membB (bs.take i) 0++bitsTo bs[i] 8 i:=by
 rw [List.take_succ_eq_append_getElem h,membB_app,List.length_take]
 rw [show 0+min i bs.length=i by omega]
theorem membB_len:∀ (l:List Int) (k:Nat),(membB l k).length<=8*l.length
 | [],k=>by simp [membB]
 | x :: l,k=>by
   have h1:=membB_len l (k+1)
   have h2:=bitsTo_len x 8 k
   unfold bitsTo at h2
   simp only [membB,List.length_append,List.length_cons]
   omega
end Go.Ew
namespace Go.Proofs.YtfhjkkbaghanhaaGreat
open Go.Ev Go.Ew
namespace Va
section
variable (ok : EnvOk (env Tryz.prog))
include ok
theorem c54 {H:KH} {bs:List Int} {Q:PQ} (hr:∀ b∈bs,0<=b/\b<=255) (hN:bs.length<=120000)
 (hq:∀ a c H',Le H H'->Own H H' 1 a (membB bs 0).length c (natC (membB bs 0))->Q (.slice a (membB bs 0).length c) H'):Does (env Tryz.prog) 54 [.agg #[.string (strB bs)]] H Q:=by
 refine fn54 ok ?_
 unfold vc54 vc54_L2
 have natApp:∀ (l:List Nat) (x:Nat),natC (l++[x])=natC l++[.int .i64 ((x:Nat):Int)]:=fun l x=>by simp [natC]
 refine ⟨fun n3 s4 a5 n6 n7 x8 x9 H10=>s4=strB bs/\x8=(bs.length:Nat)/\∃ i:Nat,x9=i/\i<=bs.length/\n3=bs.length-i/\Le H H10/\n6=(membB (bs.take i) 0).length/\Own H H10 1 a5 n6 n7 (natC (membB (bs.take i) 0)),⟨bs.length,rfl,by rw [strB_size],0,rfl,by omega,rfl,Le.refl _,rfl,.nil⟩,?_⟩
 rintro n3 s4 a5 n6 n7 x8 x9 H10 ⟨rfl,rfl,i,rfl,hi,rfl,hle,rfl,hown⟩
 refine ⟨fun hlt=>?_,fun hge=>?_⟩
 .have hlt:i<bs.length:=by have:=of_decide_eq_true hlt; omega
  have hbi:bs[i]? = some bs[i]:=by simp [hlt]
  have hby:=strB_at hbi (hr _ (List.getElem_mem hlt))
  have hml:=membB_len (bs.take i) 0
  rw [List.length_take] at hml
  have e0:Int.toNat ((i:Nat):Int)=i:=by omega
  unfold vc54_L1
  refine ⟨fun m3 s4 a5 n6 n7 x8 x9 x10 x11 H12=>s4=strB bs/\x8=(i:Nat)/\x9=(bs.length:Nat)/\x10=(i:Nat)/\∃ j:Nat,x11=j/\j<=8/\m3=8-j/\Le H H12/\n6=(membB (bs.take i) 0++bitsTo bs[i] j i).length/\Own H H12 1 a5 n6 n7 (natC (membB (bs.take i) 0++bitsTo bs[i] j i)),⟨8,rfl,rfl,rfl,rfl,0,rfl,by omega,rfl,hle,by simp [bitsTo],by simpa [bitsTo] using hown⟩,?_⟩
  rintro m3 s4 a5' n6' n7' x8 x9 x10 x11 H12 ⟨rfl,rfl,rfl,rfl,j,rfl,hj,rfl,hle2,rfl,hown2⟩
  refine ⟨fun hlt2=>?_,fun hge2=>?_⟩
  .have hlt2:j<8:=by have:=of_decide_eq_true hlt2; omega
   have e1:Int.toNat ((j:Nat):Int)=j:=by omega
   have hbl:=bitsTo_len bs[i] j i
   have w1:IntKind.wrap .i64 (((i:Nat):Int)*8)=((i*8:Nat):Int):=by rw [wrap64 (by omega) (by omega)]; omega
   have w2:IntKind.wrap .i64 (((i*8:Nat):Int)+((j:Nat):Int))=((i*8+j:Nat):Int):=by rw [wrap64 (by omega) (by omega)]; omega
   have wj:IntKind.wrap .i64 (((j:Nat):Int)+1)=((j+1:Nat):Int):=by rw [wrap64 (by omega) (by omega)]; omega
   have hbs:=bitsTo_succ bs[i] j i
   rw [e0,e1,hby,w1,w2,wj]
   refine ⟨⟨by omega,by rw [strB_size]; omega⟩,by omega,fun h1 n1 h2 n2 h3=>?_,fun h1=>?_⟩
   .have h1:bitB bs[i] j=true:=h1
    rw [if_pos h1] at hbs
    have l2:=Le.new (e:=mkEnt [.int .i64 ((i*8+j:Nat):Int)] 0) h2
    obtain ⟨a',c',H',f1,f2,f3,f4,f5⟩:=(hown2.agree (fun k e _ q=>l2 k e q)).append (ti:=IT1) (m:=1) (new:=[.int .i64 ((i*8+j:Nat):Int)]) (hle2.trans l2) h3 rfl (by simp only [List.length_append]; omega) (by decide) (by decide)
    refine ⟨1,_,knew_of (lit_kold (if_pos rfl) rfl),a',_,c',H',f1,8-(j+1),by omega,rfl,rfl,rfl,rfl,j+1,rfl,by omega,rfl,f3,by rw [hbs]; simp only [List.length_append,List.length_cons,List.length_nil]; omega,?_⟩
    rw [hbs,<- List.append_assoc,natApp]
    exact f2
   .have h1:¬ bitB bs[i] j=true:=by
     have h1:bitB bs[i] j=false:=h1
     rw [h1]; simp
    rw [if_neg h1,List.append_nil] at hbs
    exact ⟨8-(j+1),by omega,rfl,rfl,rfl,rfl,j+1,rfl,by omega,rfl,hle2,by rw [hbs],by rw [hbs]; exact hown2⟩
  .have hge2:j=8:=by have:=of_decide_eq_false hge2; omega
   subst hge2
   refine ⟨bs.length-(i+1),by omega,rfl,rfl,i+1,by rw [wrap64 (by omega) (by omega)]; omega,by omega,rfl,hle2,by rw [membB_take hlt],by rw [membB_take hlt]; exact hown2⟩
 .have hge:i=bs.length:=by have:=of_decide_eq_false hge; omega
  subst hge
  rw [List.take_length] at hown ⊢
  exact hq _ _ _ hle hown
end
end Va
end Go.Proofs.YtfhjkkbaghanhaaGreat
namespace Go.Ew
open Go.Ev Go.Deep
theorem stAt_mem {S:List St} {x:Nat} (h:x<S.length):stAt S x∈S:=by
 unfold stAt
 simp [h]
theorem takes_same {S:List St} {c:Nat} (h:¬ TurnP S (c+1)) {x:Nat} (hx:x<S.length):((stAt S x).lo<=((c+1:Nat):Int)/\((c+1:Nat):Int)<=(stAt S x).hi)↔((stAt S x).lo<=((c:Nat):Int)/\((c:Nat):Int)<=(stAt S x).hi):=by
 have h1:(stAt S x).lo≠((c+1:Nat):Int):=fun z=>h ⟨_,stAt_mem hx,.inl z⟩
 have h2:(stAt S x).hi+1≠((c+1:Nat):Int):=fun z=>h ⟨_,stAt_mem hx,.inr z⟩
 omega
theorem move_turn {S:List St} {c:Nat} (h:¬ TurnP S (c+1)):∀ (K t:List Nat),(∀ x∈K,x<S.length)->K.foldl (moveM S ((c+1:Nat):Int)) t=K.foldl (moveM S ((c:Nat):Int)) t
 | [],t,_=>rfl
 | x :: K,t,hK=>by
   have hs:=takes_same h (hK x (by simp))
   have:moveM S ((c+1:Nat):Int) t x=moveM S ((c:Nat):Int) t x:=by
    unfold moveM
    by_cases z:(stAt S x).lo<=((c:Nat):Int)/\((c:Nat):Int)<=(stAt S x).hi
    .rw [if_pos z,if_pos (hs.2 z)]
    .rw [if_neg z,if_neg fun q=>z (hs.1 q)]
   simp only [List.foldl_cons,this]
   exact move_turn h K _ fun y hy=>hK y (by simp [hy])
theorem move_zero {S:List St} (h:¬ TurnP S 0) (hb:ByteS S):∀ (K t:List Nat),(∀ x∈K,x<S.length)->K.foldl (moveM S ((0:Nat):Int)) t=t
 | [],t,_=>rfl
 | x :: K,t,hK=>by
   have hx:=hK x (by simp)
   have h1:(stAt S x).lo≠((0:Nat):Int):=fun z=>h ⟨_,stAt_mem hx,.inl z⟩
   have h2:=(hb _ (stAt_mem hx)).1
   have:moveM S ((0:Nat):Int) t x=t:=by
    unfold moveM
    rw [if_neg (fun z=>by omega)]
   simp only [List.foldl_cons,this]
   exact move_zero h hb K _ fun y hy=>hK y (by simp [hy])
theorem Bits.of_same {N:Nat} {bs:List Int} {m n:List Nat} (h:Bits N bs m) (hs:SameS m n):Bits N bs n:=⟨h.len,h.rng,fun i j b hb hj=>(h.is i j b hb hj).trans (hs _)⟩
def GoodN (S:List St) (ts:List ByteArray) (v:Int) (Z:List Nat):Prop:=(Z=[]/\v = -1)\/(Z≠[]/\∃ (k:Nat) (bs:List Int),v=((k:Nat):Int)/\ts[k]? = some (strB bs)/\Bits S.length bs Z)
theorem GoodN.same {S:List St} {ts:List ByteArray} {v:Int} {Z Z':List Nat} (h:GoodN S ts v Z) (hs:SameS Z Z'):GoodN S ts v Z':=by
 rcases h with ⟨h1,h2⟩ | ⟨h1,k,bs,h2,h3,h4⟩
 .exact .inl ⟨hs.nil.1 h1,h2⟩
 .exact .inr ⟨fun z=>h1 (hs.nil.2 z),k,bs,h2,h3,h4.of_same hs⟩
theorem GoodN.app {S:List St} {ts r:List ByteArray} {v:Int} {Z:List Nat} (h:GoodN S ts v Z):GoodN S (ts++r) v Z:=by
 rcases h with h | ⟨h1,k,bs,h2,h3,h4⟩
 .exact .inl h
 .refine .inr ⟨h1,k,bs,h2,?_,h4⟩
  have hk:k<ts.length:=by
   rcases Nat.lt_or_ge k ts.length with z | z
   .exact z
   .rw [List.getElem?_eq_none z] at h3; cases h3
  rw [List.getElem?_append_left hk]
  exact h3
def mxF (f:Nat->Int):Nat->Int->Int
 | 0,m=>m
 | b+1,m=>max (mxF f b m) (f b)
theorem mxF_congr {f g:Nat->Int} {m:Int}:∀ {n:Nat},(∀ b,b<n->f b=g b)->mxF f n m=mxF g n m
 | 0,_=>rfl
 | n+1,h=>by
   simp only [mxF]
   rw [mxF_congr fun b hb=>h b (by omega),h n (by omega)]
structure RowC (S:List St) (K:List Nat) (ts ts':List ByteArray) (f:Nat->Int) (n:Nat):Prop where
 fin:f 256=endM S K
 pre:∃ r,ts'=ts++r/\r.length<=n
 good:∀ b,b<n->GoodN S ts' (f b) (stepM S ((b:Nat):Int) K)
 new:∀ t∈ts',t∈ts\/∃ (b:Nat) (bs:List Int),t=strB bs/\Bits S.length bs (stepM S ((b:Nat):Int) K)
 nod:ts.Nodup->ts'.Nodup
 up:mxF f n ((ts.length:Int)-1)=(ts'.length:Int)-1
 ups:∀ b,b<n->f b<=mxF f b ((ts.length:Int)-1)+1
theorem RowC.nil {S:List St} {K:List Nat} {ts:List ByteArray} {f:Nat->Int} (h:f 256=endM S K):RowC S K ts ts f 0:=⟨h,⟨[],by simp,by simp⟩,fun b hb=>by omega,fun t ht=>.inl ht,id,rfl,fun b hb=>by omega⟩
def updF (f:Nat->Int) (j:Nat) (x:Int):Nat->Int:=fun k=>if k=j then x else f k
theorem RowC.step {S:List St} {K:List Nat} {ts ts1 ts2:List ByteArray} {f:Nat->Int} {n:Nat} {v:Int} (h:RowC S K ts ts1 f n) (hn:n<256) (hv:GoodN S ts2 v (stepM S ((n:Nat):Int) K))
 (h2:(ts2=ts1/\v<ts1.length)\/(∃ bs,ts2=ts1++[strB bs]/\v=ts1.length/\strB bs∉ts1/\Bits S.length bs (stepM S ((n:Nat):Int) K))):RowC S K ts ts2 (updF f n v) (n+1):=by
 have hf:∀ b,b<n->updF f n v b=f b:=fun b hb=>by unfold updF; rw [if_neg (by omega)]
 have hfn:updF f n v n=v:=by unfold updF; rw [if_pos rfl]
 have hmx:=mxF_congr (m:=(ts.length:Int)-1) hf
 obtain ⟨r,hr1,hr2⟩:=h.pre
 have happ:∃ q,ts2=ts1++q/\q.length<=1:=by
  rcases h2 with ⟨e,_⟩ | ⟨bs,e,_⟩
  .exact ⟨[],by simp [e],by simp⟩
  .exact ⟨[strB bs],e,by simp⟩
 obtain ⟨q,hq1,hq2⟩:=happ
 refine ⟨?_,⟨r++q,by rw [hq1,hr1,List.append_assoc],by simp; omega⟩,fun b hb=>?_,fun t ht=>?_,fun hnd=>?_,?_,fun b hb=>?_⟩
 .unfold updF; rw [if_neg (by omega)]; exact h.fin
 .by_cases e:b=n
  .subst e; rw [hfn]; exact hv
  .rw [hf b (by omega),hq1]; exact (h.good b (by omega)).app
 .rcases h2 with ⟨e,_⟩ | ⟨bs,e,_,_,h5⟩
  .rw [e] at ht; exact h.new t ht
  .rw [e] at ht
   rcases List.mem_append.1 ht with z | z
   .exact h.new t z
   .exact .inr ⟨n,bs,by simpa using z,h5⟩
 .rcases h2 with ⟨e,_⟩ | ⟨bs,e,_,h4,_⟩
  .rw [e]; exact h.nod hnd
  .rw [e,List.nodup_append]
   exact ⟨h.nod hnd,by simp,fun a z1 b z2 z3=>by
    have z2:b=strB bs:=by simpa using z2
    exact h4 (by rw [<- z2,<- z3]; exact z1)⟩
 .simp only [mxF]
  rw [hmx,h.up,hfn]
  rcases h2 with ⟨e,h3⟩ | ⟨bs,e,h3,_⟩
  .rw [e]; omega
  .rw [e,h3]; simp; omega
 .by_cases e:b=n
  .subst e
   rw [hfn,hmx,h.up]
   rcases h2 with ⟨e,h3⟩ | ⟨bs,e,h3,_⟩<;>omega
  .rw [hf b (by omega),mxF_congr (n:=b) (g:=f) fun k hk=>hf k (by omega)]
   exact h.ups b (by omega)
theorem intsR_get {k:IntKind} {n:Nat} {f:Nat->Int} (j:Nat):(intsR k n f)[j]? = if j<n then some (.int k (f j)) else none:=by
 by_cases h:j<n
 .rw [if_pos h]; simp [intsR,h]
 .rw [if_neg h,List.getElem?_eq_none (by rw [intsR_len]; omega)]
theorem intsR_drop {k:IntKind} {n i:Nat} (f:Nat->Int) (h:i<n):(intsR k n f).drop i = .int k (f i) :: (intsR k n f).drop (i+1):=by
 have hl:i<(intsR k n f).length:=by rw [intsR_len]; exact h
 rw [List.drop_eq_getElem_cons hl]
 simp [intsR]
theorem intsR_split {k:IntKind} {n i:Nat} (f:Nat->Int) (h:i<n):intsR k n f=(intsR k n f).take i++[.int k (f i)]++(intsR k n f).drop (i+1):=by
 rw [List.append_assoc]
 have h3:[.int k (f i)]++(intsR k n f).drop (i+1)=(intsR k n f).drop i:=by
  rw [intsR_drop f h]; rfl
 rw [h3,List.take_append_drop]
theorem intsR_upd {k:IntKind} {n i:Nat} (f:Nat->Int) (x:Int) (h:i<n):(intsR k n f).take i++[.int k x]++(intsR k n f).drop (i+1)=intsR k n (updF f i x):=by
 have hl:=intsR_len k n f
 apply List.ext_getElem?
 intro j
 rw [intsR_get,List.append_assoc]
 by_cases h1:j<i
 .rw [List.getElem?_append_left (by simp [hl]; omega),List.getElem?_take_of_lt h1,intsR_get,if_pos (by omega),if_pos (by omega)]
  unfold updF
  rw [if_neg (by omega)]
 .rw [List.getElem?_append_right (by simp [hl]; omega)]
  have hm:min i n=i:=by omega
  simp only [List.length_take,hl,hm]
  by_cases h2:j=i
  .subst h2
   rw [Nat.sub_self,if_pos h]
   simp [updF]
  .obtain ⟨d,hd⟩:∃ d,j-i=d+1:=⟨j-i-1,by omega⟩
   rw [hd]
   simp only [List.cons_append,List.nil_append,List.getElem?_cons_succ,List.getElem?_drop]
   have:i+1+d=j:=by omega
   rw [this,intsR_get]
   unfold updF
   rw [if_neg h2]
theorem intsR_last (k:IntKind) (n:Nat) (x:Int):List.replicate n (.int k 0)++[.int k x]=intsR k (n+1) (fun j=>if j=n then x else 0):=by
 apply List.ext_getElem?
 intro j
 rw [intsR_get]
 by_cases h:j<n
 .rw [List.getElem?_append_left (by simpa using h),List.getElem?_replicate,if_pos h,if_pos (by omega),if_neg (by omega)]
 .rw [List.getElem?_append_right (by simp; omega),List.length_replicate]
  by_cases h2:j=n
  .subst h2; simp
  .obtain ⟨d,hd⟩:∃ d,j-n=d+1:=⟨j-n-1,by omega⟩
   rw [hd,if_neg (by omega)]; rfl
theorem intsR_rep (k:IntKind) (n:Nat) (x:Int):intsR k n (fun _=>x)=List.replicate n (.int k x):=by
 unfold intsR
 rw [List.map_const',List.length_range]
theorem intsR_app (k:IntKind) (m n:Nat) (f g:Nat->Int):intsR k m g++intsR k n f=intsR k (m+n) fun j=>if j<m then g j else f (j-m):=by
 apply List.ext_getElem?
 intro j
 rw [intsR_get]
 by_cases h:j<m
 .rw [List.getElem?_append_left (by rw [intsR_len]; exact h),intsR_get,if_pos h,if_pos (by omega),if_pos h]
 .rw [List.getElem?_append_right (by rw [intsR_len]; omega),intsR_len,intsR_get]
  by_cases h2:j<m+n
  .rw [if_pos (by omega),if_pos h2,if_neg h]
  .rw [if_neg (by omega),if_neg h2]
def RowI (H:KH) (n:Nat) (f:Nat->Int):Prop:=∃ e,H n=some e/\wrB e=true/\rd e.cells 0 257=some (intsR .i64 257 f)
theorem RowI.at_ {H:KH} {n:Nat} {f:Nat->Int} (h:RowI H n f) {i:Nat} (hi:i<257):ld H ⟨n,0+0+i*1,none⟩ [.int .i64 (f i)]:=by
 obtain ⟨e,h0,h1,h2⟩:=h
 have hl:ld H ⟨n,0,none⟩ (intsR .i64 257 f):=⟨rfl,e,h0,by simpa [intsR_len] using h2⟩
 have:=ldSub hl (i*1) 1 (by rw [intsR_len]; omega)
 have h3:((intsR .i64 257 f).drop (i*1)).take 1=[.int .i64 (f i)]:=by
  rw [Nat.mul_one,intsR_drop f hi]; rfl
 rw [h3] at this
 exact this
theorem RowI.all {H:KH} {n:Nat} {f:Nat->Int} (h:RowI H n f):ld H ⟨n,0,none⟩ (intsR .i64 257 f):=by
 obtain ⟨e,h0,h1,h2⟩:=h
 exact ⟨rfl,e,h0,by simpa [intsR_len] using h2⟩
theorem RowI.may {H:KH} {n:Nat} {f:Nat->Int} (h:RowI H n f):KH.may H n:=by
 obtain ⟨e,h0,h1,h2⟩:=h
 exact ⟨⟨e,h0,h1⟩⟩
theorem RowI.put {H:KH} {n:Nat} {f:Nat->Int} (h:RowI H n f) {i:Nat} (hi:i<257) (x:Int):RowI (H.put ⟨n,0+0+i*1,none⟩ [.int .i64 x]) n (updF f i x):=by
 obtain ⟨e,h0,h1,h2⟩:=h
 refine ⟨⟨wr e.cells (0+0+i*1) [.int .i64 x],e.len,e.unk,none⟩,by simp only [KH.put,if_true,h0,Option.map_some],wrB_keep h1,?_⟩
 rw [<- intsR_upd f x hi]
 exact rdWr (ys:=[.int .i64 (f i)]) (by rw [<- intsR_split f hi]; exact h2) (by simp [intsR_len]; omega) rfl
theorem RowI.set {H:KH} {n:Nat} {f:Nat->Int} (h:RowI H n f) (g:Nat->Int):RowI (H.put ⟨n,0,none⟩ (intsR .i64 257 g)) n g:=by
 obtain ⟨e,h0,h1,h2⟩:=h
 refine ⟨⟨wr e.cells 0 (intsR .i64 257 g),e.len,e.unk,none⟩,by simp only [KH.put,if_true,h0,Option.map_some],wrB_keep h1,?_⟩
 have:=rdWr (e:=e.cells) (N:=257) (o:=0) (xs:=[]) (ys:=intsR .i64 257 f) (zs:=[]) (vs:=intsR .i64 257 g) (by simpa using h2) rfl (by rw [intsR_len,intsR_len])
 simpa using this
theorem RowI.agree {H H':KH} {n:Nat} {f:Nat->Int} (h:RowI H n f) (hk:∀ e,H n=some e->H' n=some e):RowI H' n f:=by
 obtain ⟨e,h0,h1,h2⟩:=h
 exact ⟨e,hk e h0,h1,h2⟩
theorem RowI.mk (H:KH) (n:Nat):RowI (H.new n (mkEnt (List.replicate 257 (.int .i64 0)) 0)) n (fun _=>0):=by
 refine ⟨_,if_pos rfl,rfl,?_⟩
 have:=rd_mk (intsR .i64 257 fun _=>0) 0
 rw [intsR_len,intsR_rep] at this
 rw [intsR_rep]
 exact this
theorem put_at {H:KH} {p o:Nat} {vs:List Value} {k:Nat} (hk:k≠p):(H.put ⟨p,o,none⟩ vs) k=H k:=by
 simp only [KH.put]; rw [if_neg hk]
end Go.Ew
namespace Go.Proofs.YtfhjkkbaghanhaaGreat
open Go.Ev Go.Ew
namespace Va
section
variable (ok : EnvOk (env Tryz.prog))
include ok
theorem c33 {X H:KH} {BB:List Nat} {w:Nat} {S:List St} {a:OA} {c:Nat} {tf:Nat->Bool} {ts:List ByteArray} {K:List Nat} {bs:List Int} {Q:PQ}
 (hst:SsN X S a) (hX:Le X H) (hXB:∀ b∈BB,X b=none) (hk:KIn BB H w S a c tf ts) (htf:∀ i,i<256->(tf i=true↔TurnP S i)) (hby:ByteS S) (hb:Bits S.length bs K) (hK:∀ x∈K,x<S.length)
 (hS:S.length<=900000) (hfl:∀ x,(stAt S x).free.length<=1000000) (hl:ts.length<=600)
 (hq:∀ f ts' BB' H',KIn BB' H' w S a c tf ts'->Fr1 BB BB' H H'->RowC S K ts ts' f 256->Q (.agg (List.toArray (intsR .i64 257 f))) H') :
 Does (env Tryz.prog) 33 [.pointer (some ⟨w,0,none⟩),.agg #[.string (strB bs)]] H Q:=by
 refine fn33 ok fun n1 h1=>?_
 have l1:=Le.new (e:=mkEnt (List.replicate 257 (.int .i64 0)) 0) h1
 have hbl:=hb.len
 refine c54 ok hb.rng (by omega) fun am cm H3 hle3 hown=>⟨am,_,cm,rfl,?_⟩
 have hmem:SameS (membB bs 0) K:=hb.memb hK
 have hmlt:∀ x∈membB bs 0,x<S.length:=fun x hx=>hK x ((hmem x).1 hx)
 have hml:=membB_len bs 0
 have hH3:Le H H3:=l1.trans hle3
 have hk3:KIn BB H3 w S a c tf ts:=hk.up hH3
 have hBH:∀ b∈BB,∃ e,H b=some e:=hk.known
 have hrow3:=hown.cells
 refine c55 ok (hk3.bds (hst.mono (hX.trans hH3))) (Le.refl _) hrow3 hmlt hS (by omega) ⟨_,rfl,fun n10 h10=>?_⟩
 have hR0:=RowI.mk H3 n10
 refine ⟨stOk hR0.all (by show _=(List.replicate 256 (Value.int .i64 0)++[Value.int .i64 (endM S (membB bs 0))]).length; rw [intsR_len,List.length_append,List.length_replicate]; rfl),hR0.may,?_⟩
 -- what stays
 let Y:KH:=fun k=>if k∈BB then none else H3 k
 have hY:Le Y H3:=fun k e q=>by
  by_cases hb:k∈BB
  .simp only [Y,if_pos hb] at q; cases q
  .simp only [Y,if_neg hb] at q; exact q
 have hYo:∀ b∈BB,Y b=none:=fun b hb=>by simp only [Y,if_pos hb]
 have hYi:∀ k e,k∉BB->H3 k=some e->Y k=some e:=fun k e hb q=>by simp only [Y,if_neg hb]; exact q
 have hXY:Le X Y:=fun k e q=>hYi k e (fun hb=>by rw [hXB k hb] at q; cases q) (hH3 k e (hX k e q))
 have hn1B:n1∉BB:=fun hb=>by
  obtain ⟨e,he⟩:=hBH n1 hb
  rw [he] at h1; cases h1
 have hY1:Y n1=some (mkEnt (List.replicate 257 (.int .i64 0)) 0):=hYi n1 _ hn1B (hle3 n1 _ (if_pos rfl))
 have hrowY:kold Y 1 am (membB bs 0).length=some (natC (membB bs 0)):=(hown.agree (H':=Y) fun k e z1 z2=>hYi k e (fun hb=>by
  obtain ⟨e',he⟩:=hBH k hb
  have:=hown.out z1
  rw [l1 k e' he] at this; cases this) z2).cells
 have hYn:Y n10=none:=hY.none h10
 have hn10B:n10∉BB:=fun hb=>by
  obtain ⟨e,he⟩:=hk3.known n10 hb
  rw [he] at h10; cases h10
 unfold vc33_L3
 rw [show Array.toList (List.toArray (List.replicate 256 (Value.int .i64 0)++[Value.int .i64 (endM S (membB bs 0))]))=intsR .i64 257 (fun j=>if j=256 then endM S (membB bs 0) else 0) from intsR_last .i64 256 _]
 have hend:endM S (membB bs 0)=endM S K:=endM_same hmem
 have hR1:=hR0.set (fun j=>if j=256 then endM S (membB bs 0) else 0)
 have hHk:∀ k e,H k=some e->k≠n10:=fun k e q z=>by subst z; rw [hH3 k e q] at h10; cases h10
 refine ⟨fun n3 n4 n5 n6 n7 a8 n9 n10' n11 n12 x13 x14 H15=>n4=w/\n5=0/\n6=n1/\n7=0/\a8=am/\n9=(membB bs 0).length/\n11=n10/\n12=0/\∃ (i:Nat) (f:Nat->Int) (ts':List ByteArray) (BB':List Nat),x14=i/\i<=256/\n3=256-i/\KIn BB' H15 w S a c tf ts'/\Le Y H15/\(∀ b∈BB',Y b=none/\b≠n10)/\RowI H15 n10 f/\RowC S K ts ts' f i/\(i=0->x13 = -1)/\(∀ j,i=j+1->x13=f j)/\(∀ k e,H k=some e->k∉BB->H15 k=some e)/\(∀ b∈BB',b∈BB\/H b=none),
  ⟨256,rfl,rfl,rfl,rfl,rfl,rfl,rfl,rfl,rfl,rfl,rfl,0,_,ts,BB,rfl,by omega,rfl,?_,?_,fun b hb=>⟨hYo b hb,fun z=>hn10B (by rw [<- z]; exact hb)⟩,hR1,.nil (by show (if 256=256 then _ else _)=_; rw [if_pos rfl]; exact hend),fun _=>rfl,fun j hj=>by omega,fun k e z1 z2=>?_,fun b hb=>.inl hb⟩,?_⟩
 .exact hk3.agree fun k e z1 z2=>by
   have hne:k≠n10:=fun z=>hn10B (by rw [<- z]; exact z1)
   rw [put_at hne]
   exact Le.new h10 k e z2
 .intro k e q
  have hne:k≠n10:=fun z=>by subst z; rw [hYn] at q; cases q
  rw [put_at hne]
  exact Le.new h10 k e (hY k e q)
 .rw [put_at (hHk k e z1)]
  exact Le.new h10 k e (hH3 k e z1)
 rintro n3 n4 n5 n6 n7 a8 n9 n10' n11 n12 x13 x14 H15 ⟨rfl,rfl,rfl,rfl,rfl,rfl,rfl,rfl,i,f,ts',BB',rfl,hi,rfl,hkI,hYH,hBY,hR,hC,hv0,hv1,hkp,hnw⟩
 refine ⟨fun hlt=>?_,fun hge=>?_⟩
 .have hlt:i<256:=by have:=of_decide_eq_true hlt; omega
  have e0:Int.toNat ((i:Nat):Int)=i:=by omega
  have wi:IntKind.wrap .i64 (((i:Nat):Int)+1)=((i+1:Nat):Int):=by rw [wrap64 (by omega) (by omega)]; omega
  have w8:IntKind.wrap .u8 ((i:Nat):Int)=((i:Nat):Int):=IntWalk.u8_in _ ⟨by omega,by omega⟩
  obtain ⟨mp,ka,kc,ex,hs,hBe⟩:=hkI
  have hkI:KIn BB' H15 n4 S a c tf ts':=⟨mp,ka,kc,ex,hs,hBe⟩
  obtain ⟨r,hr1,hr2⟩:=hC.pre
  have hts:ts'.length<=900:=by rw [hr1]; simp; omega
  -- where the ways meet
  have join:∀ (v:Int) (ts2:List ByteArray) (BB2:List Nat) (H2:KH),KIn BB2 H2 n4 S a c tf ts2->Le Y H2->(∀ b∈BB2,Y b=none/\b≠n11)->RowI H2 n11 f->GoodN S ts2 v (stepM S ((i:Nat):Int) K)->
   ((ts2=ts'/\v<ts'.length)\/(∃ bs,ts2=ts'++[strB bs]/\v=ts'.length/\strB bs∉ts'/\Bits S.length bs (stepM S ((i:Nat):Int) K)))->
   (∀ k e,H k=some e->k∉BB->H2 k=some e)->(∀ b∈BB2,b∈BB\/H b=none)->
   vc33_J0 ((i:Nat):Int) v H2 n11 0 (256-i) (fun n3 n4_1 n5 n6_1 n7 a8_1 n9 n10' n11_1 n12 x13 x14 H15=>n4_1=n4/\n5=0/\n6_1=n6/\n7=0/\a8_1=a8/\n9=(membB bs 0).length/\n11_1=n11/\n12=0/\∃ (i:Nat) (f:Nat->Int) (ts':List ByteArray) (BB':List Nat),x14=i/\i<=256/\n3=256-i/\KIn BB' H15 n4 S a c tf ts'/\Le Y H15/\(∀ b∈BB',Y b=none/\b≠n11)/\RowI H15 n11 f/\RowC S K ts ts' f i/\(i=0->x13 = -1)/\(∀ j,i=j+1->x13=f j)/\(∀ k e,H k=some e->k∉BB->H15 k=some e)/\(∀ b∈BB',b∈BB\/H b=none)) n4 0 n6 0 a8 (membB bs 0).length n10':=by
   intro v ts2 BB2 H2 j1 j2 j3 j4 j5 j6 j7 j8
   unfold vc33_J0
   rw [e0,wi]
   refine ⟨rfl,⟨by omega,by omega⟩,rfl,stOk (j4.at_ (i:=i) (by omega)) rfl,j4.may,256-(i+1),by omega,rfl,rfl,rfl,rfl,rfl,rfl,rfl,rfl,rfl,rfl,rfl,i+1,updF f i v,ts2,BB2,rfl,by omega,rfl,?_,?_,j3,j4.put (i:=i) (by omega) v,hC.step hlt j5 j6,fun z=>by omega,fun j hj=>?_,fun k e z1 z2=>?_,j8⟩
   .exact j1.agree fun k e z1 z2=>by rw [put_at (j3 k z1).2]; exact z2
   .intro k e q
    have hne:k≠n11:=fun z=>by subst z; rw [hYn] at q; cases q
    rw [put_at hne]; exact j2 k e q
   .have:i=j:=by omega
    subst this
    unfold updF; rw [if_pos rfl]
   .rw [put_at (hHk k e z1)]; exact j7 k e z1 z2
  refine ⟨rfl,⟨by omega,by omega⟩,rfl,tf i,by rw [e0]; exact hs.turn hlt,fun ht=>?_,fun ht=>?_⟩
  .rw [w8]
   have hYst:SsN H15 S a:=hst.mono (hXY.trans hYH)
   refine c56 ok (hkI.bds hYst) (Le.refl _) (hYH.kold hrowY) hmlt hS (by omega) fun H4 B p hW hle4 hfr=>⟨p,0,rfl,?_⟩
   have hk4:KIn BB' H4 n4 S a c tf ts':=hkI.up hle4
   have hBk:∀ b∈BB',∃ e,H15 b=some e:=hkI.known
   have hstep:SameS (stepM S ((i:Nat):Int) (membB bs 0)) (stepM S ((i:Nat):Int) K):=stepM_same hmem
   refine c53 ok hYst hle4 hk4 hW.dr (fun b z1 z2=>?_) hfr hS hfl hts (fun hz=>⟨_,rfl,?_⟩) (fun hz bs2 k ts2 BB2 H5 q1 q1b q2 q3 q4 q5=>⟨_,rfl,?_⟩)
   .obtain ⟨e,he⟩:=hBk b z2
    rw [hfr b z1] at he; cases he
   .have hz':stepM S ((i:Nat):Int) K=[]:=hstep.nil.1 (step_nil.2 hz)
    refine join (-1) ts' BB' H4 hk4 (hYH.trans hle4) hBY (hR.agree fun e q=>hle4 _ e q) (.inl ⟨hz',rfl⟩) (.inl ⟨rfl,by omega⟩) (fun k e z1 z2=>hle4 k e (hkp k e z1 z2)) hnw
   .have q1:Bits S.length bs2 (stepM S ((i:Nat):Int) K):=Bits.of_same (m:=stepM S ((i:Nat):Int) (membB bs 0)) q1 hstep
    have hne:stepM S ((i:Nat):Int) K≠[]:=fun z=>hz (step_nil.1 (hstep.nil.2 z))
    have hkp4:∀ k e,H15 k=some e->k∉BB'->H5 k=some e:=fun k e z1 z2=>q3 k e (hle4 k e z1) z2 fun hb=>by rw [hfr k hb] at z1; cases z1
    have hfresh:∀ b∈BB2,b∈BB'\/H15 b=none:=fun b hb=>by
     rcases q4 b hb with z | z | z
     .exact .inl z
     .exact .inr (hfr b z)
     .exact .inr (hle4.none z)
    have hY5:Le Y H5:=fun k e q=>hkp4 k e (hYH k e q) fun hb=>by rw [(hBY k hb).1] at q; cases q
    have hnY:∀ b∈BB2,Y b=none/\b≠n11:=fun b hb=>by
     rcases hfresh b hb with z | z
     .exact hBY b z
     .refine ⟨hYH.none z,fun y=>?_⟩
      subst y
      obtain ⟨e,he,_⟩:=hR
      rw [he] at z; cases z
    have hR5:RowI H5 n11 f:=hR.agree fun e q=>hkp4 n11 e q fun hb=>(hBY n11 hb).2 rfl
    have hkH:∀ k e,H k=some e->k∉BB->H5 k=some e:=fun k e z1 z2=>hkp4 k e (hkp k e z1 z2) fun hb=>by
     rcases hnw k hb with z | z
     .exact z2 z
     .rw [z] at z1; cases z1
    have hnH:∀ b∈BB2,b∈BB\/H b=none:=fun b hb=>by
     rcases hfresh b hb with z | z
     .exact hnw b z
     .rcases none_or H b with y | ⟨e,y⟩
      .exact .inr y
      .by_cases hbb:b∈BB
       .exact .inl hbb
       .rw [hkp b e y hbb] at z; cases z
    rcases q5 with ⟨rfl,q6⟩ | ⟨rfl,rfl,q6⟩
    .have hkl:k<ts2.length:=by
      rcases Nat.lt_or_ge k ts2.length with z | z
      .exact z
      .rw [List.getElem?_eq_none z] at q6; cases q6
     exact join _ ts2 BB2 H5 q2 hY5 hnY hR5 (.inr ⟨hne,k,bs2,rfl,q6,q1⟩) (.inl ⟨rfl,by omega⟩) hkH hnH
    .exact join _ _ BB2 H5 q2 hY5 hnY hR5 (.inr ⟨hne,ts'.length,bs2,rfl,by simp,q1⟩) (.inr ⟨bs2,rfl,rfl,q6,q1⟩) hkH hnH
  .have hnt:¬ TurnP S i:=fun z=>by rw [(htf i hlt).2 z] at ht; cases ht
   have hg:GoodN S ts' x13 (stepM S ((i:Nat):Int) K):=by
    cases i with
    | zero =>
      refine .inl ⟨?_,hv0 rfl⟩
      rw [step_nil,move_zero hnt hby K [] hK]
    | succ j =>
      have h2:=hC.good j (by omega)
      rw [hv1 j rfl]
      have:stepM S ((j+1:Nat):Int) K=stepM S ((j:Nat):Int) K:=by
       unfold stepM
       rw [move_turn hnt K [] hK]
      rw [this]; exact h2
   have hlt2:x13<ts'.length:=by
    rcases hg with ⟨_,z⟩ | ⟨_,k,b2,z1,z2,_⟩
    .omega
    .have hkl:k<ts'.length:=by
      rcases Nat.lt_or_ge k ts'.length with z | z
      .exact z
      .rw [List.getElem?_eq_none z] at z2; cases z2
     omega
   exact join x13 ts' BB' H15 hkI hYH hBY hR hg (.inl ⟨rfl,hlt2⟩) hkp hnw
 .have hge:i=256:=by have:=of_decide_eq_false hge; omega
  subst hge
  have hall:=hR.all
  have hR1:RowI H15 n6 (fun _=>0):=(RowI.mk H3 n6).agree fun e q=>by
   have:some (mkEnt (List.replicate 257 (.int .i64 0)) 0)=some e:=by rw [<- q]; exact (if_pos rfl).symm
   rw [<- this]
   exact hYH n6 _ hY1
  have hR2:=hR1.set f
  have hY1n:∀ b∈BB',b≠n6:=fun b hb z=>by
   have:=(hBY b hb).1
   rw [z,hY1] at this; cases this
  refine ⟨f,by rw [List.append_nil]; exact hall,stOk hR1.all (by show _=(intsR .i64 257 f).length; rw [intsR_len,intsR_len]),hR1.may,f,by rw [List.append_nil]; exact hR2.all,?_⟩
  refine hq f ts' BB' _ (hkI.agree fun k e z1 z2=>by rw [show Array.toList (List.toArray (intsR .i64 257 f))=intsR .i64 257 f from rfl,put_at (hY1n k z1)]; exact z2) ⟨fun k e z1 z2=>?_,hnw⟩ hC
  have:k≠n6:=fun z=>by subst z; rw [z1] at h1; cases h1
  rw [show Array.toList (List.toArray (intsR .i64 257 f))=intsR .i64 257 f from rfl,put_at this]
  exact hkp k e z1 z2
end
end Va
end Go.Proofs.YtfhjkkbaghanhaaGreat
namespace Go.Ew
open Go.Ev Go.Deep
def IC (H:KH) (a:OA) (n:Nat) (g:Nat->Int):Prop:=n=0\/∃ b o e,a=some ⟨b,o,none⟩/\H b=some e/\∀ j,j<n->tget e.cells (o+j)=some (.int .i64 (g j))
theorem IC.ld {H:KH} {a:OA} {n:Nat} {g:Nat->Int} (h:IC H a n g) {j:Nat} (hj:j<n):∃ b o,a=some ⟨b,o,none⟩/\∀ j,j<n->ld H ⟨b,o+j,none⟩ [.int .i64 (g j)]:=by
 rcases h with h | ⟨b,o,e,h1,h2,h3⟩
 .omega
 .refine ⟨b,o,h1,fun j hj=>⟨rfl,e,h2,?_⟩⟩
  show rd e.cells (o+j) 1=_
  simp only [rd,h3 j hj]
theorem byteAt_rng (s:ByteArray) (i:Nat):0<=byteAt s i/\byteAt s i<256:=by
 unfold byteAt
 have:=UInt8.toNat_lt ((s.data.toList[i]?).getD 0)
 omega
theorem row_lt {x n j:Nat} (h:x<n) (hj:j<257):x*257+j<n*257:=by
 have:(x+1)*257<=n*257:=Nat.mul_le_mul_right _ h
 omega
def lg (g:Nat->Int) (L:Nat) (s:ByteArray):Nat->Nat->Nat->Int × Int × Bool->Int × Int × Bool
 | 0,_,_,st=>st
 | f+1,i,p,st =>
   if g (p*257+(byteAt s i).toNat)<0 then st else if (L:Int)<=g (p*257+(byteAt s i).toNat) then st else
    lg g L s f (i+1) (g (p*257+(byteAt s i).toNat)).toNat (if g ((g (p*257+(byteAt s i).toNat)).toNat*257+256)≠0 then (IntKind.wrap .i64 (g ((g (p*257+(byteAt s i).toNat)).toNat*257+256)-1),IntKind.wrap .i64 ((i:Int)+1),true) else st)
def lgR (g:Nat->Int) (L:Nat) (s:ByteArray):Int × Int × Bool:=if L=0 then (0,0,false) else lg g L s s.size 0 0 (0,0,false)
def tup3 (r:Int × Int × Bool):Value:=.tuple #[.int .i64 r.1,.int .i64 r.2.1,.bool r.2.2]
end Go.Ew
namespace Go.Proofs.YtfhjkkbaghanhaaGreat
open Go.Ev Go.Ew Go.Deep
namespace Va
variable (ok : EnvOk (env Tryz.prog))
include ok
theorem c68 {a:OA} {n c:Nat} {s:ByteArray} {H:KH} {g:Nat->Int} {Q:PQ} (h:IC H a (n*257) g) (hs:s.size<4611686018427387904) (hQ:Q (tup3 (lgR g n s)) H):Does (env Tryz.prog) 68 [.slice a n c,.string s] H Q:=by
 refine fn68 ok ⟨fun hz=>?_,fun hz=>?_⟩
 .have hn:n=0:=by have:=of_decide_eq_true hz; omega
  subst hn
  exact hQ
 .have hn:n≠0:=by have:=of_decide_eq_false hz; omega
  have hR:lgR g n s=lg g n s s.size 0 0 (0,0,false):=by unfold lgR; rw [if_neg hn]
  obtain ⟨b,o,ha,hld⟩:=h.ld (j:=0) (by omega)
  refine ⟨fun n3 a4 n5 n6 s7 x8 x9 b10 x11 x12 x13 H14=>a4=a/\n5=n/\n6=c/\s7=s/\x12=(s.size:Int)/\H14=H/\∃ i p:Nat,x13=i/\x11=p/\n3=s.size-i/\i<=s.size/\p<n/\lg g n s (s.size-i) i p (x8,x9,b10)=lgR g n s,⟨s.size,rfl,rfl,rfl,rfl,rfl,rfl,0,0,rfl,rfl,rfl,by omega,by omega,hR.symm⟩,?_⟩
  rintro n3 a4 n5 n6 s7 x8 x9 b10 x11 x12 x13 H14 ⟨rfl,rfl,rfl,rfl,rfl,rfl,i,p,rfl,rfl,rfl,hi,hp,hl⟩
  refine ⟨fun hlt=>?_,fun hge=>?_⟩
  .have hlt:i<s7.size:=by have:=of_decide_eq_true hlt; omega
   obtain ⟨r1,r2⟩:=byteAt_rng s7 i
   have hf:s7.size-i=(s7.size-(i+1))+1:=by omega
   rw [hf] at hl
   simp only [lg] at hl
   have hsub:p*257+(byteAt s7 i).toNat<n5*257:=row_lt hp (by omega)
   obtain ⟨x,hx⟩:∃ x,x=g (p*257+(byteAt s7 i).toNat):=⟨_,rfl⟩
   rw [<- hx] at hl
   refine ⟨trivial,⟨by omega,by omega⟩,⟨by omega,by omega⟩,b,o,ha,rfl,⟨r1,r2⟩,rfl,x,?_,?_,?_⟩
   .have:=hld _ hsub
    rw [<- hx] at this
    simpa [Nat.add_assoc] using this
   .intro q
    rw [if_pos (of_decide_eq_true q)] at hl
    rw [<- hl] at hQ
    exact hQ
   .intro q
    have q:=of_decide_eq_false q
    rw [if_neg q] at hl
    refine ⟨fun q2=>?_,fun q2=>?_⟩
    .rw [if_pos (of_decide_eq_true q2)] at hl
     rw [<- hl] at hQ
     exact hQ
    .have q2:=of_decide_eq_false q2
     rw [if_neg q2] at hl
     have hxn:x.toNat<n5:=by omega
     have hsub2:x.toNat*257+256<n5*257:=row_lt hxn (by omega)
     have hw:IntKind.wrap .i64 ((i:Int)+1)=((i+1:Nat):Int):=by rw [wrap64 (by omega) (by omega)]; omega
     refine ⟨⟨by omega,by omega⟩,b,o,ha,rfl,g (x.toNat*257+256),?_,fun q3=>?_,fun q3=>?_⟩
     .have:=hld _ hsub2
      simpa [Nat.add_assoc] using this
     .rw [if_pos (show g (x.toNat*257+256)≠0 from of_decide_eq_true q3)] at hl
      exact ⟨s7.size-(i+1),by omega,rfl,rfl,rfl,rfl,rfl,rfl,i+1,x.toNat,hw,by omega,rfl,by omega,hxn,hl⟩
     .rw [if_neg (show ¬ (g (x.toNat*257+256)≠0) from of_decide_eq_false q3)] at hl
      exact ⟨s7.size-(i+1),by omega,rfl,rfl,rfl,rfl,rfl,rfl,i+1,x.toNat,hw,by omega,rfl,by omega,hxn,hl⟩
  .have hge:i=s7.size:=by have:=of_decide_eq_false hge; omega
   rw [hge,Nat.sub_self] at hl
   rw [<- hl] at hQ
   exact hQ
end Va
end Go.Proofs.YtfhjkkbaghanhaaGreat
namespace Go.Ew
open Go.Ev Go.Deep
theorem step_lt {S:List St} {c:Int} {K:List Nat}:∀ x∈stepM S c K,x<S.length:=(clM_spec (moveF_fit K [] (fit_nil _))).1.lt
theorem beg_lt {S:List St}:∀ x∈begM S,x<S.length:=(clM_spec (addS_fit (fit_nil _))).1.lt
structure KsOk (S:List St) (ts:List ByteArray):Prop where
 fst:∃ bs,ts[0]? = some (strB bs)/\Bits S.length bs (begM S)
 way:∀ t∈ts,(∃ bs,t=strB bs/\Bits S.length bs (begM S))\/∃ (b:Nat) (K:List Nat) (bs:List Int),t=strB bs/\Bits S.length bs (stepM S ((b:Nat):Int) K)
 nod:ts.Nodup
theorem KsOk.key {S:List St} {ts:List ByteArray} (h:KsOk S ts) {t:ByteArray} (ht:t∈ts):∃ bs K,t=strB bs/\Bits S.length bs K/\∀ x∈K,x<S.length:=by
 rcases h.way t ht with ⟨bs,h1,h2⟩ | ⟨b,K,bs,h1,h2⟩
 .exact ⟨bs,_,h1,h2,beg_lt⟩
 .exact ⟨bs,_,h1,h2,step_lt⟩
theorem KsOk.one {S:List St} {bs:List Int} (h:Bits S.length bs (begM S)):KsOk S [strB bs]:=⟨⟨bs,rfl,h⟩,fun t ht=>.inl ⟨bs,by simpa using ht,h⟩,by simp⟩
theorem KsOk.step {S:List St} {ts ts':List ByteArray} {K:List Nat} {f:Nat->Int} (h:KsOk S ts) (hr:RowC S K ts ts' f 256):KsOk S ts':=by
 obtain ⟨r,hr1,_⟩:=hr.pre
 obtain ⟨bs,h1,h2⟩:=h.fst
 refine ⟨⟨bs,?_,h2⟩,fun t ht=>?_,hr.nod h.nod⟩
 .have:0<ts.length:=by
   rcases Nat.eq_zero_or_pos ts.length with z | z
   .rw [List.eq_nil_of_length_eq_zero z] at h1; cases h1
   .exact z
  rw [hr1,List.getElem?_append_left this]; exact h1
 .rcases hr.new t ht with z | ⟨b,bs',z1,z2⟩
  .exact h.way t z
  .exact .inr ⟨b,K,bs',z1,z2⟩
def mxG (N:Nat) (g:Nat->Int):Nat->Int
 | 0=>0
 | i+1=>mxF (fun b=>g (i*257+b)) N (mxG N g i)
theorem mxG_succ (N:Nat) (g:Nat->Int) (i:Nat):mxG N g (i+1)=mxF (fun b=>g (i*257+b)) N (mxG N g i):=rfl
theorem mxG_congr {N:Nat} {f g:Nat->Int} (hN:N<=257) (n:Nat) (h:∀ j,j<n*257->f j=g j):mxG N f n=mxG N g n:=by
 induction n with
 | zero=>rfl
 | succ n ih =>
   rw [mxG_succ,mxG_succ,ih fun j hj=>h j (Nat.lt_of_lt_of_le hj (Nat.mul_le_mul_right _ (Nat.le_succ n)))]
   exact mxF_congr fun b hb=>h _ (by
    have:(n+1)*257=n*257+257:=Nat.succ_mul n 257
    omega)
structure RowsC (S:List St) (ts:List ByteArray) (g:Nat->Int) (n:Nat):Prop where
 good:∀ (i:Nat) (K:List Nat) (bs:List Int),i<n->ts[i]? = some (strB bs)->Bits S.length bs K->(∀ x∈K,x<S.length)->g (i*257+256)=endM S K/\∀ b,b<256->GoodN S ts (g (i*257+b)) (stepM S ((b:Nat):Int) K)
 up:mxG 256 g n=(ts.length:Int)-1
 ups:∀ i b,i<n->b<256->g (i*257+b)<=mxF (fun b=>g (i*257+b)) b (mxG 256 g i)+1
 ord:∀ i,i<n->(i:Int)<=mxG 256 g i
def catG (g f:Nat->Int) (m:Nat):Nat->Int:=fun j=>if j<m then g j else f (j-m)
theorem RowsC.step {S:List St} {ts ts':List ByteArray} {g f:Nat->Int} {n:Nat} {K:List Nat} {bs:List Int} (h:RowsC S ts g n) (hn:ts[n]? = some (strB bs)) (hb:Bits S.length bs K) (hK:∀ x∈K,x<S.length) (hr:RowC S K ts ts' f 256):RowsC S ts' (catG g f (n*257)) (n+1):=by
 obtain ⟨r,hr1,_⟩:=hr.pre
 have hnl:n<ts.length:=by
  rcases Nat.lt_or_ge n ts.length with z | z
  .exact z
  .rw [List.getElem?_eq_none z] at hn; cases hn
 have hlo:∀ j,j<n*257->catG g f (n*257) j=g j:=fun j hj=>by unfold catG; rw [if_pos hj]
 have hhi:∀ b,catG g f (n*257) (n*257+b)=f b:=fun b=>by unfold catG; rw [if_neg (by omega)]; congr 1; omega
 have hlt:∀ i b,i<n->b<257->i*257+b<n*257:=fun i b h1 h2=>by
  have:(i+1)*257<=n*257:=Nat.mul_le_mul_right _ h1
  omega
 have hmx:∀ i,i<=n->mxG 256 (catG g f (n*257)) i=mxG 256 g i:=fun i hi=>mxG_congr (by omega) i fun j hj=>hlo j (Nat.lt_of_lt_of_le hj (Nat.mul_le_mul_right _ hi))
 refine ⟨fun i K' bs' hi h1 h2 h3=>?_,?_,fun i b hi hb'=>?_,fun i hi=>?_⟩
 .by_cases e:i=n
  .subst e
   rw [hr1,List.getElem?_append_left hnl,hn] at h1
   have e1:bs=bs':=strB_inj hb.rng h2.rng (Option.some.inj h1)
   subst e1
   have hs:SameS K K':=hb.same h2 hK h3
   refine ⟨by rw [hhi,hr.fin]; exact endM_same hs,fun b hb'=>?_⟩
   rw [hhi]
   exact (hr.good b hb').same (stepM_same hs)
  .have hi:i<n:=by omega
   rw [hr1,List.getElem?_append_left (by omega)] at h1
   obtain ⟨q1,q2⟩:=h.good i K' bs' hi h1 h2 h3
   refine ⟨by rw [hlo _ (hlt i 256 hi (by omega))]; exact q1,fun b hb'=>?_⟩
   rw [hlo _ (hlt i b hi (by omega)),hr1]
   exact (q2 b hb').app
 .rw [mxG_succ,hmx n (by omega),h.up,mxF_congr (g:=f) fun b hb'=>hhi b]
  exact hr.up
 .by_cases e:i=n
  .subst e
   rw [hhi,hmx i (by omega),h.up,mxF_congr (g:=f) fun k hk=>hhi k]
   exact hr.ups b hb'
  .have hi:i<n:=by omega
   rw [hlo _ (hlt i b hi (by omega)),hmx i (by omega),mxF_congr (g:=fun b=>g (i*257+b)) fun k hk=>hlo _ (hlt i k hi (by omega))]
   exact h.ups i b hi hb'
 .rw [hmx i (by omega)]
  by_cases e:i=n
  .subst e; rw [h.up]; omega
  .exact h.ord i (by omega)
theorem RowsC.rows {S:List St} {ts:List ByteArray} {g:Nat->Int} (h:RowsC S ts g ts.length) (hk:KsOk S ts):∃ keys:List (List Nat),keys.length=ts.length/\RowsOk S keys g:=by
 have hex:∀ l:List ByteArray,(∀ t∈l,t∈ts)->∃ keys:List (List Nat),keys.length=l.length/\∀ (i:Nat) (K:List Nat),keys[i]? = some K->∃ bs,l[i]? = some (strB bs)/\Bits S.length bs K/\∀ x∈K,x<S.length:=by
  intro l
  induction l with
  | nil=>intro _; exact ⟨[],rfl,fun i K h=>by simp at h⟩
  | cons t l ih =>
    intro hl
    obtain ⟨keys,h1,h2⟩:=ih fun u hu=>hl u (by simp [hu])
    obtain ⟨bs,K,q1,q2,q3⟩:=hk.key (hl t (by simp))
    refine ⟨K :: keys,by simp [h1],fun i K' hi=>?_⟩
    cases i with
    | zero =>
      have hi:K=K':=by simpa using hi
      subst hi
      exact ⟨bs,by simp [q1],q2,q3⟩
    | succ i=>simpa using h2 i K' (by simpa using hi)
 obtain ⟨keys,h1,h2⟩:=hex ts fun t ht=>ht
 have hpos:0<ts.length:=by
  obtain ⟨bs,q,_⟩:=hk.fst
  rcases Nat.eq_zero_or_pos ts.length with z | z
  .rw [List.eq_nil_of_length_eq_zero z] at q; cases q
  .exact z
 have hlt:∀ (k:Nat) (K:List Nat),keys[k]? = some K->k<ts.length:=fun k K q=>by
  rcases Nat.lt_or_ge k keys.length with z | z
  .omega
  .rw [List.getElem?_eq_none z] at q; cases q
 refine ⟨keys,h1,by omega,fun K hK=>?_,fun k K hK=>?_,fun k K c hK hc hz=>?_,fun k K c hK hc hz=>?_⟩
 .obtain ⟨bs,q1,q2,q3⟩:=h2 0 K hK
  obtain ⟨bs',p1,p2⟩:=hk.fst
  rw [p1] at q1
  have:=strB_inj p2.rng q2.rng (Option.some.inj q1)
  subst this
  exact q2.same p2 q3 beg_lt
 .obtain ⟨bs,q1,q2,q3⟩:=h2 k K hK
  exact (h.good k K bs (hlt k K hK) q1 q2 q3).1
 .obtain ⟨bs,q1,q2,q3⟩:=h2 k K hK
  rcases (h.good k K bs (hlt k K hK) q1 q2 q3).2 c hc with ⟨_,z⟩ | ⟨z,_⟩
  .rw [z]; omega
  .exact absurd hz z
 .obtain ⟨bs,q1,q2,q3⟩:=h2 k K hK
  rcases (h.good k K bs (hlt k K hK) q1 q2 q3).2 c hc with ⟨z,_⟩ | ⟨_,k',bs',z1,z2,z3⟩
  .exact absurd z hz
  .have hk':k'<ts.length:=by
    rcases Nat.lt_or_ge k' ts.length with z | z
    .exact z
    .rw [List.getElem?_eq_none z] at z2; cases z2
   have e:keys[k']? = some keys[k']:=by simp [h1,hk']
   obtain ⟨bs2,p1,p2,p3⟩:=h2 k' _ e
   rw [z2] at p1
   have:=strB_inj z3.rng p2.rng (Option.some.inj p1)
   subst this
   exact ⟨k',keys[k'],z1,e,p2.same z3 p3 step_lt⟩
abbrev RT:TI:=⟨257,2056,true,3,0,0,[(0,256),(256,1)],List.replicate 257 (.int .i64 0)⟩
theorem Gr.ic {H:KH} {sz n c N:Nat} {a:OA} {g:Nat->Int} {ex:List Value} (h:Gr H sz a n c (intsR .i64 N g) ex):IC H a N g:=by
 cases hn:N with
 | zero=>exact .inl rfl
 | succ m =>
   rw [<- hn]
   generalize hcs:intsR .i64 N g=cs at h
   cases h with
   | nil=>have:=congrArg List.length hcs; rw [intsR_len] at this; simp at this; omega
   | on b _ e _ _ h1 h2 h3 h4 h5 h6 =>
     refine .inr ⟨b,0,e,rfl,h1,fun j hj=>?_⟩
     have hl:N=cs.length:=by rw [<- hcs,intsR_len]
     refine rd_get h4 j _ ?_
     rw [List.getElem?_append_left (by omega),<- hcs,intsR_get,if_pos hj]
end Go.Ew
namespace Go.Proofs.YtfhjkkbaghanhaaGreat
open Go.Ev Go.Ew
namespace Va
section
variable (ok : EnvOk (env Tryz.prog))
include ok
theorem c32 {H:KH} {S:List St} {a:OA} {c:Nat} {Q:PQ}
 (hst:SsN H S a) (hby:ByteS S) (h0:0<S.length) (hS:S.length<=900000) (hfl:∀ x,(stAt S x).free.length<=1000000)
 (hq:∀ w tf BB H' bs,KIn BB H' w S a c tf [strB bs]->Bits S.length bs (begM S)->Le H H'->(∀ b∈BB,H b=none)->(∀ i,i<256->(tf i=true↔TurnP S i))->Q (.pointer (some ⟨w,0,none⟩)) H') :
 Does (env Tryz.prog) 32 [.slice a S.length c] H Q:=by
 refine fn32 ok (c49 ok hst hby hS fun f H2 hle2 hf=>⟨f,rfl,fn50 ok fun n6 h6=>⟨n6,none,0,0,rfl,fun n10 h10=>?_⟩⟩)
 have l6:=Le.new (e:=mpE []) h6
 have l10:=Le.new (e:=mkEnt (Array.toList (List.toArray ([Value.slice a S.length c]++boolsR 256 f++[Value.map (some n6),Value.slice none 0 0]))) 0) h10
 have hne:n10≠n6:=fun z=>by subst z; simp [KH.new] at h10
 refine c51 ok hS fun B H12 p hd hle12 hBf=>⟨p,0,rfl,?_⟩
 refine c52 ok hd hS fun B' H16 hd' hfr=>⟨rfl,?_⟩
 have hkI:KIn [n10,n6] ((H2.new n6 (mpE [])).new n10 (mkEnt (Array.toList (List.toArray ([Value.slice a S.length c]++boolsR 256 f++[Value.map (some n6),Value.slice none 0 0]))) 0)) n10 S a c f []:=by
  refine ⟨n6,none,0,[],⟨⟨_,if_pos rfl,rfl,?_⟩,l10 n6 _ (if_pos rfl),.nil,hne,(fun z=>by cases z),fun z=>by cases z⟩,rfl⟩
  have:=rd_mk ([Value.slice a S.length c]++boolsR 256 f++[Value.map (some n6),Value.slice none 0 0]) 0
  have hl:([Value.slice a S.length c]++boolsR 256 f++[Value.map (some n6),Value.slice none 0 0]).length=259:=by simp [boolsR_len]
  rw [hl] at this
  simpa using this
 have hk12:=hkI.up hle12
 have hBn:∀ b∈[n10,n6],b∉B':=fun b hb hb'=>by
  obtain ⟨e,he⟩:=hk12.known b hb
  obtain ⟨e',he'⟩:=hkI.known b hb
  rcases hfr.nw b hb' with z | z
  .rw [hBf b z] at he'; cases he'
  .rw [z] at he; cases he
 have hkp:∀ k e,H k=some e->H16 k=some e:=fun k e q=>by
  have q6:=l10 k e (l6 k e (hle2 k e q))
  exact hfr.kp k e (hle12 k e q6) fun hb=>by rw [hBf k hb] at q6; cases q6
 have hBH:∀ b∈B',H b=none:=fun b hb=>by
  rcases hfr.nw b hb with z | z
  .exact hle2.none (l6.none (l10.none (hBf b z)))
  .exact hle2.none (l6.none (l10.none (hle12.none z)))
 have hk16:KIn [n10,n6] H16 n10 S a c f []:=hk12.agree fun k e z1 z2=>hfr.kp k e z2 fun hb=>by
  obtain ⟨e',he'⟩:=hkI.known k z1
  rw [hBf k hb] at he'; cases he'
 have hm:addS S.length [] 0≠[]:=by
  unfold addS
  rw [if_neg (by omega),if_neg (by omega),if_neg (by simp)]
  simp
 refine c53 ok hst hkp hk16 hd' (fun b z1 z2=>hBn b z2 z1) hBH hS hfl (by simp) (fun z=>absurd z hm) fun _ bs k ts' BB' H18 q1 q1b q2 q3 q4 q5=>⟨_,rfl,?_⟩
 have hfin:∀ b∈BB',H b=none:=fun b hb=>by
  rcases q4 b hb with z | z | z
  .have hn:∀ b∈[n10,n6],H b=none:=fun b hb=>by
    rcases List.mem_cons.1 hb with y | hb
    .rw [y]; exact hle2.none (l6.none h10)
    .have:b=n6:=by simpa using hb
     rw [this]; exact hle2.none h6
   exact hn b z
  .exact hBH b z
  .rcases none_or H b with y | ⟨e,y⟩
   .exact y
   .rw [hkp b e y] at z; cases z
 have hle18:Le H H18:=fun k e q=>q3 k e (hkp k e q) (fun hb=>by
  rcases List.mem_cons.1 hb with y | hb
  .subst y; rw [hle2.none (l6.none h10)] at q; cases q
  .have:k=n6:=by simpa using hb
   subst this; rw [hle2.none h6] at q; cases q) fun hb=>by rw [hBH k hb] at q; cases q
 rcases q5 with ⟨_,z⟩ | ⟨rfl,_,_⟩
 .simp at z
 .exact hq n10 f BB' H18 bs q2 q1 hle18 hfin hf
theorem c22 {H:KH} {S:List St} {a:OA} {c:Nat} {Q:PQ}
 (hst:SsN H S a) (hby:ByteS S) (h0:0<S.length) (hS:S.length<=900000) (hfl:∀ x,(stAt S x).free.length<=1000000)
 (hq:∀ ra rc ts g H',Le H H'->IC H' ra (ts.length*257) g->KsOk S ts->RowsC S ts g ts.length->ts.length<=300->Q (.slice ra ts.length rc) H')
 (hmany:∀ ts H',Le H H'->KsOk S ts->300<ts.length->Q (.slice none 0 0) H') :
 Does (env Tryz.prog) 22 [.slice a S.length c] H Q:=by
 refine fn22 ok ⟨fun hz=>?_,fun hz=>?_⟩
 .exfalso
  have:=of_decide_eq_true hz
  omega
 refine c32 ok hst hby h0 hS hfl fun w tf BB H2 bs hkI hbits hle2 hBf htf=>⟨w,0,rfl,?_⟩
 unfold vc22_L1
 refine ⟨fun n3 n4 n5 a6 n7 n8 x9 H10=>n4=w/\n5=0/\∃ (at_:Nat) (g:Nat->Int) (ts:List ByteArray) (BB:List Nat) (ex:List Value),n7=at_/\x9=at_/\n3=301-at_/\at_<=ts.length/\ts.length<=300/\KIn BB H10 w S a c tf ts/\Le H H10/\(∀ b∈BB,H b=none)/\Gr H10 257 a6 at_ n8 (intsR .i64 (at_*257) g) ex/\(∀ b,blk a6=some b->H b=none/\b∉BB)/\KsOk S ts/\RowsC S ts g at_,
  ⟨301,rfl,rfl,rfl,0,fun _=>0,[strB bs],BB,[],rfl,rfl,rfl,by simp,by simp,hkI,hle2,hBf,.nil,(fun b q=>by cases q),KsOk.one hbits,⟨fun i K bs' hi=>by omega,by simp [mxG],fun i b hi=>by omega,fun i hi=>by omega⟩⟩,?_⟩
 rintro n3 n4 n5 a6 n7 n8 x9 H10 ⟨rfl,rfl,i,g,ts,BB,ex,rfl,rfl,rfl,hi,hts,hkI,hle,hBf,hrows,hra,hks,hC⟩
 obtain ⟨mp,ka,kc,kex,hs,hBe⟩:=hkI
 have hkI:KIn BB H10 n4 S a c tf ts:=⟨mp,ka,kc,kex,hs,hBe⟩
 refine ⟨rfl,rfl,ka,_,kc,hs.c258,fun hlt=>?_,fun hge=>?_⟩
 .have hlt:n7<ts.length:=by have:=of_decide_eq_true hlt; omega
  have e0:Int.toNat ((n7:Nat):Int)=n7:=by omega
  have hti:ts[n7]? = some ts[n7]:=by simp [hlt]
  obtain ⟨b1,o1,z1,r1⟩:=rowAddr hs.row.row (by omega)
  have g1:=r1 (n7*1) 1 (by omega)
  rw [keyC_at hti] at g1
  obtain ⟨bs1,K,k1,k2,k3⟩:=hks.key (List.getElem_mem hlt)
  rw [k1] at g1 hti
  refine ⟨rfl,rfl,ka,_,kc,hs.c258,⟨by omega,by omega⟩,b1,o1,z1,_,by rw [e0]; exact g1,?_⟩
  refine c33 ok hst hle hBf hkI htf hby k2 k3 hS hfl (by omega) fun f ts' BB' H8 hk8 hfr8 hC8=>⟨f,rfl,fun n10 h10 n11 h11=>?_⟩
  have l10:=Le.new (e:=mkEnt (intsR .i64 257 f) 0) h10
  have hraB:∀ b,blk a6=some b->b∉BB':=fun b q hb=>by
   rcases hfr8.nw b hb with z | z
   .exact (hra b q).2 z
   .obtain ⟨e,he⟩:=hrows.at' q
    rw [he] at z; cases z
  have hrow8:Gr (H8.new n10 (mkEnt (intsR .i64 257 f) 0)) 257 a6 n7 n8 (intsR .i64 (n7*257) g) ex:=hrows.agree fun k e q1 q2=>l10 k e (hfr8.kp k e q2 (hra k q1).2)
  obtain ⟨a',H',ex',f1,f2,_,f4,f5⟩:=hrow8.append (ti:=RT) (new:=intsR .i64 257 f) h11 (intsR_len _ _ _) (by omega) (by decide) (by decide)
  have hcat:intsR .i64 (n7*257) g++intsR .i64 257 f=intsR .i64 ((n7+1)*257) (catG g f (n7*257)):=by
   rw [intsR_app,Nat.succ_mul]; rfl
  rw [hcat] at f2
  have hk8':∀ k e,k∈BB'->H8 k=some e->H' k=some e:=fun k e q1 q2=>f4 k e (l10 k e q2) fun q=>hraB k q q1
  have hkI':KIn BB' H' n4 S a c tf ts':=hk8.agree hk8'
  obtain ⟨mp',ka',kc',kex',hs',hBe'⟩:=hkI'
  have hkI':KIn BB' H' n4 S a c tf ts':=⟨mp',ka',kc',kex',hs',hBe'⟩
  have hle':Le H H':=fun k e q=>f4 k e (l10 k e (hfr8.kp k e (hle k e q) fun hb=>by rw [hBf k hb] at q; cases q)) fun z=>by rw [(hra k z).1] at q; cases q
  have hks':=hks.step hC8
  have hC':=hC.step hti k2 k3 hC8
  obtain ⟨r,hr1,hr2⟩:=hC8.pre
  have hlen:ts'.length=ts.length+r.length:=by rw [hr1]; simp
  refine ⟨1,_,knew_of (lit_kold (if_pos rfl) (by rw [intsR_len]; rfl)),a',_,unkU,H',f1,rfl,rfl,ka',_,kc',hs'.c258,fun h300=>?_,fun h300=>?_⟩
  .exact hmany ts' H' hle' hks' (by have:=of_decide_eq_true h300; omega)
  .have h300:ts'.length<=300:=by have:=of_decide_eq_false h300; omega
   have h11':H8 n11=none:=l10.none h11
   have hnH:∀ b,H8 b=none->H b=none:=fun b q=>by
    rcases none_or H b with y | ⟨e,y⟩
    .exact y
    .rw [hfr8.kp b e (hle b e y) fun hb=>by rw [hBf b hb] at y; cases y] at q; cases q
   refine ⟨301-(n7+1),by omega,rfl,rfl,rfl,n7+1,_,ts',BB',ex',rfl,by rw [wrap64 (by omega) (by omega)]; omega,rfl,by omega,h300,hkI',hle',fun b hb=>?_,f2,fun b q=>?_,hks',hC'⟩
   .rcases hfr8.nw b hb with z | z
    .exact hBf b z
    .exact hle.none z
   .rcases f5 b q with z | z
    .exact ⟨(hra b z).1,hraB b z⟩
    .subst z
     refine ⟨hnH _ h11',fun hb=>?_⟩
     obtain ⟨e,he⟩:=hk8.known b hb
     rw [he] at h11'; cases h11'
 .have hge:n7=ts.length:=by have:=of_decide_eq_false hge; omega
  subst hge
  exact hq a6 n8 ts g H10 hle hrows.ic hks hC hts
end
end Va
end Go.Proofs.YtfhjkkbaghanhaaGreat
namespace Go.Ew
open Go.Ev Go.Deep
theorem kslice_ok {H:KH} {sz n c m c':Nat} {a a':OA} {lo hi:Option Value} (hz:1<=sz) (q:kslice H sz a n c lo hi=some (.slice a' m c')):SlOk H sz a' m c':=by
 unfold kslice at q
 cases a with
 | none =>
   simp only at q
   split at q
   .cases q; rfl
   .cases q
 | some b =>
   obtain ⟨bb,bo,sp⟩:=b
   cases sp with
   | some sp =>
     simp only [Option.isNone_some,cond_false] at q
     split at q
     .cases q; exact .inr ⟨by simp,rfl⟩
     .cases q
   | none =>
     simp only [Option.isNone_none,cond_true] at q
     split at q
     .rename_i l u cl h1 h2 h3
      cases hb:(Nat.ble l u&&Nat.ble u cl&&Nat.ble n cl&&true)<;>simp only [hb,cond_true,cond_false,reduceCtorEq] at q
      simp only [Bool.and_true,Bool.and_eq_true] at hb
      have b1:=Nat.le_of_ble_eq_true hb.1.1
      have b2:=Nat.le_of_ble_eq_true hb.1.2
      cases hlt:Nat.blt c unkU<;>simp only [hlt,cond_true,cond_false] at q
      .have hk:kcap H ⟨bb,bo,none⟩ c sz=some cl:=h3
       unfold kcap at hk
       simp only [hlt,cond_false] at hk
       cases he:H bb with
       | none=>rw [he] at hk; cases hk
       | some e =>
         rw [he] at hk
         simp only at hk
         cases hb2:(Nat.beq e.unk sz&&Nat.beq bo ((c-unkU)*sz)&&Nat.ble 1 sz&&Nat.ble bo e.len)<;>simp only [hb2,cond_true,cond_false,Option.some.injEq,reduceCtorEq] at hk
         simp only [Bool.and_eq_true] at hb2
         have d1:=Nat.eq_of_beq_eq_true hb2.1.1.1
         have d2:=Nat.eq_of_beq_eq_true hb2.1.1.2
         have d3:=Nat.le_of_ble_eq_true hb2.2
         have hcu:unkU<=c:=by
          rcases Nat.lt_or_ge c unkU with z | z
          .rw [show Nat.blt c unkU=true from Nat.ble_eq_true_of_le z] at hlt; cases hlt
          .exact z
         cases h0:Nat.blt l cl<;>simp only [h0,cond_true,cond_false] at q
         .cases h4:Nat.beq l 0<;>simp only [h4,cond_true,cond_false,Option.some.injEq] at q
          .have q:(Value.slice (some ⟨0,0,some 0⟩) 0 _)=_:=q
           cases q
           exact .inr ⟨by simp,rfl⟩
          .cases q
           exact .inl ⟨rfl,cl,h3,b2⟩
         .cases q
          have hl:l<cl:=Nat.le_of_ble_eq_true h0
          refine .inl ⟨rfl,cl-l,?_,by omega⟩
          unfold kcap
          have e1:Nat.blt (c+l) unkU=false:=by
           cases hq:Nat.blt (c+l) unkU
           .rfl
           .have:c+l<unkU:=Nat.le_of_ble_eq_true hq
            omega
          simp only [e1,cond_false,he]
          have hmul:cl*sz<=e.len-bo:=by rw [<- hk]; exact Nat.div_mul_le_self _ _
          have hlm:l*sz<=cl*sz:=Nat.mul_le_mul_right _ (by omega)
          have f1:Nat.beq (bo+l*sz) ((c+l-unkU)*sz)=true:=by
           have:c+l-unkU=(c-unkU)+l:=by omega
           rw [this,Nat.add_mul,<- d2]
           exact Nat.beq_refl _
          have f2:Nat.ble (bo+l*sz) e.len=true:=Nat.ble_eq_true_of_le (by omega)
          simp only [hb2.1.1.1,f1,f2,nble _ _ hz,Bool.and_self,cond_true]
          congr 1
          have:e.len-(bo+l*sz)=e.len-bo-l*sz:=by omega
          rw [this,<- hk]
          exact Nat.sub_mul_div (e.len-bo) sz l ▸ by rw [Nat.mul_comm]
      .have hk:kcap H ⟨bb,bo,none⟩ c sz=some cl:=h3
       unfold kcap at hk
       simp only [hlt,cond_true,Option.some.injEq] at hk
       subst hk
       have hcu:c<unkU:=Nat.le_of_ble_eq_true hlt
       have hkc:∀ b,kcap H b (c-l) sz=some (c-l):=fun b=>by
        unfold kcap
        rw [show Nat.blt (c-l) unkU=true from Nat.ble_eq_true_of_le (by show c-l+1<=unkU; omega)]
        rfl
       cases h4:Nat.beq c l<;>simp only [h4,cond_true,cond_false] at q
       .cases q; exact .inl ⟨rfl,c-l,hkc _,by omega⟩
       .cases q; exact .inl ⟨rfl,c-l,hkc _,by omega⟩
     .cases q
def stB:List It->Nat->Nat
 | [],_=>0
 | x :: r,m=>if (if x.1=1 then m-1 else if x.1=2\/x.1=3 then m+1 else m)=0 then r.length else stB r (if x.1=1 then m-1 else if x.1=2\/x.1=3 then m+1 else m)
theorem stB_tree:∀ (t:Ptn) (pre:List It) (m:Nat),1<=m->stB (pre++t.items).reverse m=if m=1 then pre.length else stB pre.reverse (m-1)
 | .cls L,pre,m,hm=>by
   simp only [Ptn.items,List.reverse_append,List.reverse_cons,List.reverse_nil,List.nil_append,List.singleton_append,stB,if_true,List.length_reverse]
   by_cases h:m=1
   .subst h; simp
   .rw [if_neg (by omega),if_neg h]
 | .join a b,pre,m,hm=>by
   have h1:=stB_tree b (pre++a.items) (m+1) (by omega)
   have h2:=stB_tree a pre m hm
   rw [if_neg (by omega),Nat.add_sub_cancel,h2] at h1
   have e:(pre++(Ptn.join a b).items).reverse=(2,[]) :: (pre++a.items++b.items).reverse:=by simp [Ptn.items]
   rw [e,stB]
   simp only [show ¬ ((2:Int)=1) by decide,if_false,true_or,if_true]
   rw [if_neg (by omega),h1]
 | .alt a b,pre,m,hm=>by
   have h1:=stB_tree b (pre++a.items) (m+1) (by omega)
   have h2:=stB_tree a pre m hm
   rw [if_neg (by omega),Nat.add_sub_cancel,h2] at h1
   have e:(pre++(Ptn.alt a b).items).reverse=(3,[]) :: (pre++a.items++b.items).reverse:=by simp [Ptn.items]
   rw [e,stB]
   simp only [show ¬ ((3:Int)=1) by decide,if_false,or_true,if_true]
   rw [if_neg (by omega),h1]
 | .star a,pre,m,hm=>by
   have h2:=stB_tree a pre m hm
   have e:(pre++(Ptn.star a).items).reverse=(4,[]) :: (pre++a.items).reverse:=by simp [Ptn.items]
   rw [e,stB]
   simp only [show ¬ ((4:Int)=1) by decide,show ¬ ((4:Int)=2) by decide,show ¬ ((4:Int)=3) by decide,if_false,or_self]
   rw [if_neg (by omega),h2]
 | .plus a,pre,m,hm=>by
   have h2:=stB_tree a pre m hm
   have e:(pre++(Ptn.plus a).items).reverse=(5,[]) :: (pre++a.items).reverse:=by simp [Ptn.items]
   rw [e,stB]
   simp only [show ¬ ((5:Int)=1) by decide,show ¬ ((5:Int)=2) by decide,show ¬ ((5:Int)=3) by decide,if_false,or_self]
   rw [if_neg (by omega),h2]
 | .may a,pre,m,hm=>by
   have h2:=stB_tree a pre m hm
   have e:(pre++(Ptn.may a).items).reverse=(6,[]) :: (pre++a.items).reverse:=by simp [Ptn.items]
   rw [e,stB]
   simp only [show ¬ ((6:Int)=1) by decide,show ¬ ((6:Int)=2) by decide,show ¬ ((6:Int)=3) by decide,if_false,or_self]
   rw [if_neg (by omega),h2]
inductive MoN (R:Nat->Nat->Prop):Nat->Nat->Nat->Prop where
 | one (i j:Nat) (h:R i j):MoN R 1 i j
 | more (n i k j:Nat) (h:MoN R n i k) (r:R k j):MoN R (n+1) i j
theorem Mo.app {R:Nat->Nat->Prop} {i k j:Nat} (h:Mo R i k) (r:Mo R k j):Mo R i j:=by
 induction h with
 | none i=>exact r
 | more i k' j' h1 h2 ih=>exact .more _ _ _ h1 (ih r)
theorem Mo.of {R:Nat->Nat->Prop} {i j:Nat} (h:R i j):Mo R i j:=.more _ _ _ h (.none _)
theorem MoN.mo {R:Nat->Nat->Prop} {n i j:Nat} (h:MoN R n i j):∃ k,R i k/\Mo R k j:=by
 induction h with
 | one i j h=>exact ⟨j,h,.none _⟩
 | more n i k j h r ih =>
   obtain ⟨k',h1,h2⟩:=ih
   exact ⟨k',h1,h2.app (.of r)⟩
theorem MoN.front {R:Nat->Nat->Prop} {n i k j:Nat} (h:R i k) (r:MoN R n k j):MoN R (n+1) i j:=by
 induction r with
 | one k j h1=>exact .more _ _ _ _ (.one _ _ h) h1
 | more n k k' j h1 h2 ih=>exact .more _ _ _ _ (ih h) h2
theorem Mo.few {R:Nat->Nat->Prop} (hle:∀ i j,R i j->i<=j) {i j:Nat} (h:Mo R i j):i=j\/∃ n,1<=n/\n<=j-i/\MoN R n i j:=by
 induction h with
 | none i=>exact .inl rfl
 | more i k j h1 h2 ih =>
   have q:=hle _ _ h1
   rcases ih with z | ⟨n,z1,z2,z3⟩
   .subst z
    rcases Nat.lt_or_ge i k with u | u
    .exact .inr ⟨1,by omega,by omega,.one _ _ h1⟩
    .exact .inl (by omega)
   .rcases Nat.lt_or_ge i k with u | u
    .exact .inr ⟨n+1,by omega,by omega,.front h1 z3⟩
    .have:i=k:=by omega
     subst this
     exact .inr ⟨n,z1,z2,z3⟩
theorem plus_few {R:Nat->Nat->Prop} (hle:∀ i j,R i j->i<=j) {i j N:Nat} (hj:j<=N):(∃ k,R i k/\Mo R k j)↔∃ n,1<=n/\n<=N+2/\MoN R n i j:=by
 constructor
 .rintro ⟨k,h1,h2⟩
  rcases h2.few hle with z | ⟨n,z1,z2,z3⟩
  .subst z; exact ⟨1,by omega,by omega,.one _ _ h1⟩
  .exact ⟨n+1,by omega,by omega,.front h1 z3⟩
 .rintro ⟨n,_,_,h⟩
  exact h.mo
theorem star_few {R:Nat->Nat->Prop} (hle:∀ i j,R i j->i<=j) {i j N:Nat} (hj:j<=N):Mo R i j↔i=j\/∃ n,1<=n/\n<=N+2/\MoN R n i j:=by
 constructor
 .intro h
  rcases h.few hle with z | ⟨n,z1,z2,z3⟩
  .exact .inl z
  .exact .inr ⟨n,z1,by omega,z3⟩
 .rintro (z | ⟨n,_,_,h⟩)
  .subst z; exact .none _
  .obtain ⟨k,h1,h2⟩:=h.mo
   exact .more _ _ _ h1 h2
end Go.Ew
