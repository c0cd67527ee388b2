import Derived.Test.YtfhjkkbaghanhaaGreatEwNt1
import Derived.Test.YtfhjkkbaghanhaaGreatEwVc4
set_option linter.unusedVariables false
set_option linter.unusedSimpArgs false
namespace Go.Ew
open Go.Ev Go.Deep
def TkC:List ByteArray→List Value→Prop
 | [],cs=>cs=[]
 | s :: r,cs=>∃ nm b ds,cs = .string nm :: .string s :: .bool b :: ds∧TkC r ds
def TkR (H:KH) (rs:List ByteArray) (a:OA):Prop:=∃ cs,kold H 3 a rs.length=some cs∧TkC rs cs
theorem TkC.snoc:∀ {r:List ByteArray} {cs:List Value} {s nm:ByteArray} {b:Bool},TkC r cs→TkC (r++[s]) (cs++[.string nm,.string s,.bool b])
 | [],cs,s,nm,b,h=>by
   have h:cs=[]:=h
   subst h
   exact ⟨nm,b,[],rfl,rfl⟩
 | x :: r,cs,s,nm,b,⟨nm',b',ds,h1,h2⟩=>by
   subst h1
   exact ⟨nm',b',_,rfl,h2.snoc⟩
theorem TkC.get:∀ {r:List ByteArray} {cs:List Value} {k:Nat} {s:ByteArray},TkC r cs→r[k]? = some s→cs[k*3+1]? = some (.string s)
 | [],cs,k,s,h,hk=>by simp at hk
 | x :: r,cs,0,s,⟨nm',b',ds,h1,h2⟩,hk=>by
   have hk:x=s:=by simpa using hk
   subst hk; subst h1; rfl
 | x :: r,cs,k+1,s,⟨nm',b',ds,h1,h2⟩,hk=>by
   subst h1
   have hk:r[k]? = some s:=by simpa using hk
   have:=TkC.get h2 hk
   have e:(k+1)*3+1=k*3+1+3:=by omega
   rw [e]
   simpa using this
abbrev TT3:TI:=⟨3,40,true,3,0,0,[(0,1),(1,1),(2,1)],[.string (ByteArray.mk #[]),.string (ByteArray.mk #[]),.bool false]⟩
theorem hide1 {H:KH} {n:Nat} {e:Ent} (h:H n=none):hideK (H.new n e) [n]=H:=by
 funext k
 simp only [hideK,KH.del,KH.new]
 by_cases hk:k=n
 ·subst hk; simp [h]
 ·simp [hk]
theorem back1 {H K:KH} {n:Nat} {e:Ent}:backK (H.new n e) K [n]=K.new n e:=by
 funext k
 simp only [backK,KH.new]
 by_cases hk:k=n
 ·subst hk; simp
 ·simp [hk]
theorem blank_ok:parseR (ByteArray.mk #[32,43])=some [(1,[(32,32)]),(5,[])]:=by decide +kernel
end Go.Ew
namespace Go.Proofs.YtfhjkkbaghanhaaGreat
open Go.Ev Go.Ew
namespace Va
section
variable (ok : EnvOk (env Tryz.prog))
include ok
theorem c7 {K0 H:KH} {p:Nat} {Q:PQ} (hp:PK K0 p H) (hq:∀ rs a c H',rs.length≤4→(∀ s∈rs,∃ l,parseR s=some l)→Le K0 H'→TkR H' rs a→Q (.slice a rs.length c) H'):Does (env Tryz.prog) 7 [.pointer (some ⟨p,0,none⟩)] H Q:=by
 refine fn7 ok (c18 ok hp (by omega) (by omega) fun x3 H2 h0 h1 hp2=>⟨_,rfl,?_⟩)
 have hw:IntKind.wrap .i64 (x3+1)=x3+1:=wrap64 (by omega) (by omega)
 unfold vc7_L2
 refine ⟨fun n3 n4 n5 a6 n7 n8 x9 H10=>n4=p∧n5=0∧∃ (rs:List ByteArray) (cells:List Value) (K HK:KH) (i:Nat),n7=rs.length∧x9=i∧n3=i∧rs.length+i≤3∧Gr H10 3 a6 n7 n8 cells []∧TkC rs cells∧(∀ s∈rs,∃ l,parseR s=some l)∧PK K p HK∧Le K0 K∧Le HK H10∧∀ b,blk a6=some b→HK b=none,
  ⟨(x3+1).toNat,rfl,rfl,rfl,[],[],K0,H2,(x3+1).toNat,rfl,by rw [hw]; omega,rfl,by simp; omega,.nil,rfl,(fun s hs=>by cases hs),hp2,Le.refl _,Le.refl _,fun b q=>by cases q⟩,?_⟩
 rintro n3 n4 n5 a6 n7 n8 x9 H10 ⟨rfl,rfl,rs,cells,K,HK,i,rfl,rfl,rfl,hi,hG,hT,hpar,hpk,hKK,hHK,hout⟩
 have hin:∀ b,blk a6=some b→∃ e,H10 b=some e:=fun b q=>hG.at' q
 refine ⟨fun hlt=>⟨trivial,fun n1 hn1=>?_⟩,fun hge=>?_⟩
 ·have hlt:0<n3:=by have:=of_decide_eq_true hlt; omega
  refine ⟨_,_,lit_kold (if_pos rfl) rfl,rfl,(show 1+1≤1000000 by omega),?_⟩
  rw [hide1 hn1]
  refine Does.only hHK (c19 ok hpk fun s K' HK' hs _ _ hKK' hpk' H5 hH5 hrest=>⟨_,rfl,fun hn1'=>?_⟩)
  rw [back1]
  refine ⟨⟨rfl,rfl,rfl,rfl,rfl,⟨_,_,lit_kold (if_pos rfl) rfl,rfl,rfl⟩,⟨(show 1+1≤1000000 by omega),rfl⟩,trivial⟩,fun n9 h9 n10 h10=>?_⟩
  have l1:=Le.new (e:=mkEnt [Value.int .u8 (IntKind.wrap .u8 (IntKind.wrap .i64 (97+((rs.length:Nat):Int))))] 0) hn1'
  have l2:=Le.new (e:=mkEnt [Value.string (ByteArray.mk #[116]++ByteArray.mk (List.toArray [UInt8.ofNat (IntKind.wrap .u8 (IntKind.wrap .i64 (97+((rs.length:Nat):Int)))).toNat])),.string s,.bool false] 0) h9
  have hG5:Gr H5 3 a6 rs.length n8 cells []:=hG.agree fun k e q1 q2=>(hrest k e q2 (hout k q1)).1
  obtain ⟨a',H',ex',f1,f2,f3,f4,f5⟩:=((hG5.agree fun k e _ q=>l1 k e q).agree fun k e _ q=>l2 k e q).append (ti:=TT3) (new:=[.string (ByteArray.mk #[116]++ByteArray.mk (List.toArray [UInt8.ofNat (IntKind.wrap .u8 (IntKind.wrap .i64 (97+((rs.length:Nat):Int)))).toNat])),.string s,.bool false]) h10 rfl (by omega) (by decide) (by decide)
  have hx:=f3 rfl
  subst hx
  have hout':∀ b,blk a6=some b→HK' b=none:=fun b q=>by
   obtain ⟨e,z⟩:=hin b q
   exact (hrest b e z (hout b q)).2
  refine ⟨1,_,knew_of (lit_kold (if_pos rfl) rfl),a',_,_,H',f1,trivial,n3-1,by omega,rfl,rfl,rfl,rs++[s],_,K',HK',n3-1,by simp,by rw [wrap64 (by omega) (by omega)]; omega,rfl,by simp; omega,f2,hT.snoc,fun t ht=>?_,hpk',hKK.trans hKK',fun k e q=>f4 k e (l2 k e (l1 k e (hH5 k e q))) fun z=>(by rw [hout' k z] at q; cases q),fun b q=>?_⟩
  ·rcases List.mem_append.1 ht with z | z
   ·exact hpar t z
   ·have:t=s:=by simpa using z
    rw [this]; exact hs
  ·rcases f5 b q with z | z
   ·exact hout' b z
   ·rw [z]; exact hH5.none (l1.none (l2.none h10))
 ·intro n1 hn1 n2 hn2
  have l1:=Le.new (e:=mkEnt [Value.string (ByteArray.mk #[98,108,97,110,107]),.string (ByteArray.mk #[32,43]),.bool true] 0) hn1
  obtain ⟨a',H',ex',f1,f2,f3,f4,f5⟩:=(hG.agree fun k e _ q=>l1 k e q).append (ti:=TT3) (new:=[.string (ByteArray.mk #[98,108,97,110,107]),.string (ByteArray.mk #[32,43]),.bool true]) hn2 rfl (by omega) (by decide) (by decide)
  have hx:=f3 rfl
  subst hx
  have hl:(rs++[ByteArray.mk #[32,43]]).length=rs.length+1:=by simp
  have:=hq (rs++[ByteArray.mk #[32,43]]) a' unkU H' (by rw [hl]; omega) (fun t ht=>by
   rcases List.mem_append.1 ht with z | z
   ·exact hpar t z
   ·have:t=ByteArray.mk #[32,43]:=by simpa using z
    rw [this]; exact ⟨_,blank_ok⟩) (fun k e q=>f4 k e (l1 k e (hHK k e (hpk.le k e (hKK k e q)))) fun z=>by
     have h1:=hpk.le k e (hKK k e q)
     rw [hout k z] at h1; cases h1) ⟨_,by rw [hl]; exact f2.row,hT.snoc⟩
  rw [hl] at this
  exact ⟨1,_,knew_of (lit_kold (if_pos rfl) rfl),a',_,_,H',f1,this⟩
abbrev PT1:TI:=⟨1,24,false,1,59,0,[],[.slice none 0 0]⟩
theorem c8 {a:OA} {n c:Nat} {H:KH} {Q:PQ} (hu:U8 H a n) (hn:n≤100) (hq:∀ s H',s.size≤2*n→(∀ b∈bytesI s,32≤b)→Le H H'→Q (.string s) H'):Does (env Tryz.prog) 8 [.slice a n c] H Q:=by
 refine fn8 ok ?_
 unfold vc8 vc8_L1
 refine ⟨fun n3 a4 n5 n6 s7 x8 H9=>a4=a∧n5=n∧Le H H9∧∃ k:Nat,x8=k∧k≤n∧n3=n-k∧s7.size≤2*k∧∀ b∈bytesI s7,32≤b,⟨n,rfl,rfl,Le.refl _,0,rfl,by omega,rfl,by decide,fun b hb=>by cases hb⟩,?_⟩
 rintro n3 a4 n5 n6 s7 x8 H9 ⟨rfl,rfl,hle,k,rfl,hk,rfl,hsz,hb⟩
 refine ⟨fun hlt n1 hn1=>?_,fun hge=>?_⟩
 ·have hlt:k<n5:=by have:=of_decide_eq_true hlt; omega
  have e0:Int.toNat ((k:Nat):Int)=k:=by omega
  obtain ⟨b,o,x,h1,h2,h3,h4⟩:=hu k hlt
  have l1:=Le.new (e:=mkEnt [Value.string (ByteArray.mk #[97]),.string (ByteArray.mk #[98]),.string (ByteArray.mk #[99]),.string (ByteArray.mk #[43]),.string (ByteArray.mk #[32]),.string (ByteArray.mk #[48]),.string (ByteArray.mk #[97,98]),.string (ByteArray.mk #[63])] 0) hn1
  have hm:∃ y:Nat,Int.tmod x 8=y∧y<8:=by
   refine ⟨(x%8).toNat,?_,by omega⟩
   rw [Int.tmod_eq_emod_of_nonneg h3]; omega
  obtain ⟨y,hy1,hy2⟩:=hm
  have hy0:Int.toNat ((y:Nat):Int)=y:=by omega
  have hat:∃ s:ByteArray,[Value.string (ByteArray.mk #[97]),.string (ByteArray.mk #[98]),.string (ByteArray.mk #[99]),.string (ByteArray.mk #[43]),.string (ByteArray.mk #[32]),.string (ByteArray.mk #[48]),.string (ByteArray.mk #[97,98]),.string (ByteArray.mk #[63])][y]? = some (.string s)∧s.size≤2∧∀ b∈bytesI s,32≤b:=by
   have:y=0∨y=1∨y=2∨y=3∨y=4∨y=5∨y=6∨y=7:=by omega
   rcases this with q | q | q | q | q | q | q | q<;>subst q<;>exact ⟨_,rfl,by decide,by decide⟩
  obtain ⟨s,s1,s2,s3⟩:=hat
  rw [e0]
  refine ⟨⟨by omega,by omega⟩,b,o,h1,x,by simpa using l1.ld (hle.ld h2),by decide,?_⟩
  rw [hy1,hy0]
  refine ⟨⟨by omega,by omega⟩,n1,0,rfl,s,litAt (if_pos rfl) s1,by omega,n5-(k+1),by omega,rfl,rfl,hle.trans l1,k+1,by rw [wrap64 (by omega) (by omega)]; omega,by omega,rfl,by rw [size_app]; omega,fun z hz=>?_⟩
  rw [bytesI_app] at hz
  rcases List.mem_append.1 hz with q | q
  ·exact hb z q
  ·exact s3 z q
 ·have hge:k=n5:=by have:=of_decide_eq_false hge; omega
  subst hge
  exact hq s7 H9 hsz hb hle
end
end Va
end Go.Proofs.YtfhjkkbaghanhaaGreat
