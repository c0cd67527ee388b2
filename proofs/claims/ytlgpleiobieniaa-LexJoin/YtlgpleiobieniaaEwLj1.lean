import Derived.Test.YtlgpleiobieniaaEwLx1
import Derived.Test.YtlgpleiobieniaaEwVc9
set_option linter.unusedVariables false
set_option linter.unusedSimpArgs false
namespace Go.Ew
open Go.Ev Go.Deep
theorem byteAt_app {s t:ByteArray} {i:Nat} (h:i<s.size):byteAt (s++t) i=byteAt s i:=by
 unfold byteAt
 have:i<s.data.toList.length:=h
 rw [ByteArray.data_append,Array.toList_append,List.getElem?_append_left this]
theorem Mo.mapB {R R':Nat→Nat→Prop} {m:Nat} (hle:∀ i j,R i j→i≤j) (h:∀ i j,j≤m→R i j→R' i j) {i j:Nat} (o:Mo R i j) (hj:j≤m):Mo R' i j:=by
 induction o with
 | none i=>exact .none i
 | more i k j h1 h2 ih=>exact .more i k j (h i k (by have:=Mo.le hle h2; omega) h1) (ih hj)
theorem Mt.agree {s s':ByteArray} {m:Nat} (hm':m≤s'.size) (ha:∀ i,i<m→byteAt s i=byteAt s' i):∀ (t:Ptn) (i j:Nat),j≤m→Mt s t i j→Mt s' t i j
 | .cls L,i,j,hj,h=>by
   obtain ⟨h1,h2,r,hr,h3,h4⟩:=h
   have hi:i<m:=by omega
   rw [ha i hi] at h3 h4
   exact ⟨h1,by omega,r,hr,h3,h4⟩
 | .join a b,i,j,hj,⟨k,h1,h2⟩=>⟨k,Mt.agree hm' ha a i k (by have:=Mt.le b k j h2; omega) h1,Mt.agree hm' ha b k j hj h2⟩
 | .alt a b,i,j,hj,h=>by
   rcases h with h | h
   ·exact .inl (Mt.agree hm' ha a i j hj h)
   ·exact .inr (Mt.agree hm' ha b i j hj h)
 | .star a,i,j,hj,h=>Mo.mapB (Mt.le a) (fun i j q=>Mt.agree hm' ha a i j q) h hj
 | .plus a,i,j,hj,⟨k,h1,h2⟩=>⟨k,Mt.agree hm' ha a i k (by have:=Mo.le (Mt.le a) h2; omega) h1,Mo.mapB (Mt.le a) (fun i j q=>Mt.agree hm' ha a i j q) h2 hj⟩
 | .may a,i,j,hj,h=>by
   rcases h with h | h
   ·exact .inl h
   ·exact .inr (Mt.agree hm' ha a i j hj h)
theorem byteAt_app2 {s t:ByteArray} (i:Nat):byteAt (s++t) (s.size+i)=byteAt t i:=by
 unfold byteAt
 have:s.data.toList.length=s.size:=rfl
 rw [ByteArray.data_append,Array.toList_append,List.getElem?_append_right (by omega),this,Nat.add_sub_cancel_left]
theorem byteAt_from {s:ByteArray} {i q:Nat} (h:i+q<s.size):byteAt (fromB s i) q=byteAt s (i+q):=by
 unfold byteAt fromB strCut
 have:i+q<s.data.toList.length:=h
 rw [ByteArray.data_extract]
 simp
 rw [List.getElem?_take_of_lt (by omega),List.getElem?_drop]
 simp
def pJ:List (List It):=[[(1,[(97,99),(48,48)]),(5,[])],[(1,[(43,43)])],[(1,[(32,32)])]]
def rJ:List ByteArray:=[ByteArray.mk #[91,97,45,99,48,93,43],ByteArray.mk #[92,43],ByteArray.mk #[32]]
theorem parsJ:ParsE rJ pJ:=by unfold ParsE; decide +kernel
theorem hasJ {w:ByteArray} {k j:Nat} (h:Has pJ w k j):(k=0∧Mt w (.plus (.cls [(97,99),(48,48)])) 0 j)∨(k=1∧Mt w (.cls [(43,43)]) 0 j)∨(k=2∧Mt w (.cls [(32,32)]) 0 j):=by
 obtain ⟨l,h1,h2⟩:=h
 match k,h1 with
 | 0,h1=>cases h1; exact .inl ⟨rfl,h2⟩
 | 1,h1=>cases h1; exact .inr (.inl ⟨rfl,h2⟩)
 | 2,h1=>cases h1; exact .inr (.inr ⟨rfl,h2⟩)
 | k+3,h1=>simp [pJ] at h1
theorem hasJ2 {w:ByteArray} {j:Nat} (h:Mt w (.cls [(32,32)]) 0 j):Has pJ w 2 j:=⟨[(1,[(32,32)])],rfl,h⟩
theorem noC {w:ByteArray} {n i j:Nat} (h:byteAt w n=32) (hm:Mt w (.cls [(97,99),(48,48)]) i j) (hi:i≤n):j≤n:=by
 obtain ⟨h1,h2,r,hr,h3,h4⟩:=hm
 rcases Nat.lt_or_ge i n with z | z
 ·omega
 ·have:i=n:=by omega
  subst this
  rw [h] at h3 h4
  simp at hr
  rcases hr with rfl | rfl<;>simp at h3 h4
theorem shutJ {w:ByteArray} {n k j:Nat} (h:byteAt w n=32) (hn:1≤n) (hm:Has pJ w k j):j≤n:=by
 rcases hasJ hm with ⟨_,i,h1,h2⟩ | ⟨_,h1,_⟩ | ⟨_,h1,_⟩
 ·exact Mo.sz (fun i j q z=>noC h q z) h2 (noC h h1 (Nat.zero_le _))
 ·omega
 ·omega
theorem has_agree {pats:List (List It)} {w w':ByteArray} {n k j:Nat} (hn:n≤w'.size) (ha:∀ q,q<n→byteAt w q=byteAt w' q) (hj:j≤n) (h:Has pats w k j):Has pats w' k j:=by
 obtain ⟨l,h1,h2⟩:=h
 exact ⟨l,h1,Mt.agree hn ha _ _ _ hj h2⟩
theorem extJ {w w':ByteArray} (h1:1≤w.size) (h2:w.size≤w'.size) (ha:∀ q,q<w.size→byteAt w q=byteAt w' q) (hb:w.size<w'.size→byteAt w' w.size=32) {r:Int × Int × Bool} (h:LgSpec (Has pJ w) w.size r):LgSpec (Has pJ w') w'.size r:=by
 have key:∀ k j,j≤w'.size→Has pJ w' k j→j≤w.size∧Has pJ w k j:=fun k j hj hh=>by
  have hj':j≤w.size:=by
   rcases Nat.lt_or_ge w.size w'.size with z | z
   ·exact shutJ (hb z) h1 hh
   ·omega
  exact ⟨hj',has_agree (Nat.le_refl _) (fun q hq=>(ha q hq).symm) hj' hh⟩
 cases h with
 | no h=>exact .no fun k j q1 q2 hh=>h k j q1 (key k j q2 hh).1 (key k j q2 hh).2
 | yes k j q1 q2 q3 q4 q5=>exact .yes k j q1 (by omega) (has_agree h2 ha q2 q3) (fun k' j' z1 z2 hh=>q4 k' j' z1 (key k' j' z2 hh).1 (key k' j' z2 hh).2) fun k' z hh=>q5 k' z (key k' j (by omega) hh).2
theorem blankJ {w:ByteArray} (h0:1≤w.size) (h:byteAt w 0=32):LgSpec (Has pJ w) w.size (((2:Nat):Int),((1:Nat):Int),true):=by
 have no0:∀ j,¬ Mt w (.plus (.cls [(97,99),(48,48)])) 0 j:=fun j ⟨i,q,_⟩=>by
  have h1:=q.1
  have:=noC h q (Nat.le_refl _)
  omega
 have no1:∀ j,¬ Mt w (.cls [(43,43)]) 0 j:=fun j ⟨q1,q2,r,hr,q3,q4⟩=>by
  rw [h] at q3 q4
  simp at hr
  subst hr
  simp at q3 q4
 refine .yes 2 1 (Nat.le_refl _) h0 (hasJ2 ⟨rfl,h0,(32,32),by simp,by rw [h]; simp,by rw [h]; simp⟩) (fun k' j' z1 z2 hh=>?_) fun k' z hh=>?_
 ·rcases hasJ hh with ⟨_,q⟩ | ⟨_,q⟩ | ⟨_,q,_⟩
  ·exact no0 _ q
  ·exact no1 _ q
  ·omega
 ·rcases hasJ hh with ⟨_,q⟩ | ⟨_,q⟩ | ⟨q,_⟩
  ·exact no0 _ q
  ·exact no1 _ q
  ·omega
theorem Tks.det {F:Nat→Int × Int} {N:Nat}:∀ {i:Nat} {r r':List (Int × Nat × Int)},Tks F N i r→Tks F N i r'→r=r':=by
 intro i r r' h
 induction h generalizing r' with
 | nil =>
   intro h'
   cases h' with
   | nil=>rfl
   | cons h1=>omega
 | cons h1 h2 h3 h4 hr ih =>
   intro h'
   cases h' with
   | nil=>omega
   | cons g1 g2 g3 g4 gr =>
     rw [h2] at g2
     rename_i n r n' r'
     have:n=n':=by omega
     subst this
     rw [ih gr]
theorem Tks.front {F F':Nat→Int × Int} {n N:Nat} {R:List (Int × Nat × Int)} (hF:∀ i,i<n→F i=F' i) (hn:n≤N) (hR:Tks F' N n R):∀ {i:Nat} {r:List (Int × Nat × Int)},Tks F n i r→Tks F' N i (r++R):=by
 intro i r h
 induction h with
 | nil=>exact hR
 | cons h1 h2 h3 h4 hr ih =>
   rw [List.cons_append,hF _ h1]
   rw [hF _ h1] at h2
   exact .cons (by omega) h2 h3 (by omega) ih
def shT (d:Nat) (x:Int × Nat × Int):Int × Nat × Int:=(x.1,d+x.2.1,x.2.2)
theorem Tks.shift {F F':Nat→Int × Int} {n d:Nat} (hF:∀ i,i<n→F' (d+i)=F i):∀ {i:Nat} {r:List (Int × Nat × Int)},Tks F n i r→Tks F' (d+n) (d+i) (r.map (shT d)):=by
 intro i r h
 induction h with
 | nil=>exact .nil
 | cons h1 h2 h3 h4 hr ih =>
   rename_i i nn r
   rw [List.map_cons]
   have h2':(F' (d+i)).2=((nn:Nat):Int):=by rw [hF _ h1]; exact h2
   have e:shT d ((F i).1,i,((nn:Nat):Int))=((F' (d+i)).1,d+i,((nn:Nat):Int)):=by rw [hF _ h1]; rfl
   rw [e]
   refine .cons (by omega) h2' h3 (by omega) ?_
   rw [Nat.add_assoc]
   exact ih
section
variable {ts : List ByteArray} {g : Nat → Int} (hk : KsOk (nfaM pJ) ts) (hC : RowsC (nfaM pJ) ts g ts.length)
include hk hC
theorem specJ {w:ByteArray} (hw:w.size≤1000000):LgSpec (Has pJ w) w.size (lgR g ts.length w):=by
 obtain ⟨keys,h1,h2⟩:=hC.rows hk
 have e:lgR g ts.length w=nfaL (nfaM pJ) w:=by rw [lgR_eq,← h1,dLgR_nfa h2]
 rw [e]
 exact nfaL_spec (good_of parsJ.par).2.2 (by decide) hw
theorem sameJ {w w':ByteArray} (hw:w'.size≤1000000) (h1:1≤w.size) (h2:w.size≤w'.size) (ha:∀ q,q<w.size→byteAt w q=byteAt w' q) (hb:w.size<w'.size→byteAt w' w.size=32):fstM g ts.length w=fstM g ts.length w':=by
 have e:=(extJ h1 h2 ha hb (specJ hk hC (w:=w) (by omega))).same (specJ hk hC hw)
 unfold fstM
 rw [e]
theorem tokJ {s t:ByteArray} (hs:s.size≤1000) (ht:t.size≤1000) {l m all:List (Int × Nat × Int)} (h1:Tks (fun i=>fstM g ts.length (fromB s i)) s.size 0 l) (h2:Tks (fun i=>fstM g ts.length (fromB t i)) t.size 0 m)
 (h3:Tks (fun i=>fstM g ts.length (fromB (s++ByteArray.mk #[32]++t) i)) (s++ByteArray.mk #[32]++t).size 0 all):all=l++(2,s.size,1) :: m.map (shT (s.size+1)):=by
 have hz:(s++ByteArray.mk #[32]).size=s.size+1:=size_app _ _
 have hN:(s++ByteArray.mk #[32]++t).size=s.size+1+t.size:=by rw [size_app,hz]
 have b1:∀ q,q<s.size→byteAt (s++ByteArray.mk #[32]++t) q=byteAt s q:=fun q hq=>by rw [byteAt_app (by omega),byteAt_app hq]
 have b2:byteAt (s++ByteArray.mk #[32]++t) s.size=32:=by
  rw [byteAt_app (by omega)]
  have:=byteAt_app2 (s:=s) (t:=ByteArray.mk #[32]) 0
  rw [Nat.add_zero] at this
  rw [this]; rfl
 have b3:∀ q,byteAt (s++ByteArray.mk #[32]++t) (s.size+1+q)=byteAt t q:=fun q=>by rw [← hz]; exact byteAt_app2 q
 rw [hN] at h3
 have hfs:∀ i,i≤s.size+1+t.size→(fromB (s++ByteArray.mk #[32]++t) i).size=s.size+1+t.size-i:=fun i hi=>by rw [fromB_size (by omega),hN]
 refine h3.det (Tks.front (F:=fun i=>fstM g ts.length (fromB s i)) (fun i hi=>?_) (by omega) ?_ h1)
 ·have q1:=fromB_size (s:=s) (i:=i) (by omega)
  have q2:=hfs i (by omega)
  refine sameJ hk hC (by omega) (by omega) (by omega) (fun q hq=>?_) fun _=>?_
  ·rw [byteAt_from (by omega),byteAt_from (by omega),b1 _ (by omega)]
  ·rw [byteAt_from (by omega),q1]
   have:i+(s.size-i)=s.size:=by omega
   rw [this]; exact b2
 ·have q2:=hfs s.size (by omega)
  have e0:byteAt (fromB (s++ByteArray.mk #[32]++t) s.size) 0=32:=by rw [byteAt_from (by omega)]; exact b2
  have e:=(blankJ (by omega) e0).same (specJ hk hC (w:=fromB (s++ByteArray.mk #[32]++t) s.size) (by omega))
  have ef:fstM g ts.length (fromB (s++ByteArray.mk #[32]++t) s.size)=(2,1):=by
   unfold fstM
   rw [← e]
   rfl
  have h4:Tks (fun i=>fstM g ts.length (fromB (s++ByteArray.mk #[32]++t) i)) (s.size+1+t.size) (s.size+1) (m.map (shT (s.size+1))):=by
   have:=Tks.shift (F:=fun i=>fstM g ts.length (fromB t i)) (F':=fun i=>fstM g ts.length (fromB (s++ByteArray.mk #[32]++t) i)) (d:=s.size+1) (fun i hi=>?_) h2
   ·rwa [Nat.add_zero] at this
   ·have p1:=fromB_size (s:=t) (i:=i) (by omega)
    have p2:=hfs (s.size+1+i) (by omega)
    refine (sameJ hk hC (by omega) (by omega) (by omega) (fun q hq=>?_) fun z=>by omega).symm
    rw [byteAt_from (by omega),byteAt_from (by omega),Nat.add_assoc (s.size+1),b3]
  have:=Tks.cons (F:=fun i=>fstM g ts.length (fromB (s++ByteArray.mk #[32]++t) i)) (N:=s.size+1+t.size) (i:=s.size) (n:=1) (by omega) (by rw [ef]; rfl) (Nat.le_refl _) (by omega) h4
  rw [ef] at this
  exact this
end
end Go.Ew
set_option linter.unusedVariables false
set_option linter.unusedSimpArgs false
namespace Go.Ew
open Go.Ev Go.Deep
theorem tk_get3:∀ {l:List (Int × Nat × Int)} {i:Nat} {x:Int × Nat × Int},l[i]? = some x→((tkC l).drop (i*3)).take 3=[.int .i64 x.1,.int .i64 ((x.2.1:Nat):Int),.int .i64 x.2.2]
 | [],i,x,h=>by simp at h
 | y :: l,0,x,h=>by
   have h:y=x:=by simpa using h
   subst h; rfl
 | y :: l,i+1,x,h=>by
   have h:l[i]? = some x:=by simpa using h
   have:=tk_get3 h
   have e:(i+1)*3=i*3+3:=by omega
   rw [e]
   simpa [tkC] using this
theorem tk_ld3 {H:KH} {a:OA} {l:List (Int × Nat × Int)} (h:kold H 3 a l.length=some (tkC l)) {i:Nat} {x:Int × Nat × Int} (hi:l[i]? = some x):∃ b o,a=some ⟨b,o,none⟩∧ld H ⟨b,o+i*3,none⟩ [.int .i64 x.1,.int .i64 ((x.2.1:Nat):Int),.int .i64 x.2.2]:=by
 have hl:i<l.length:=by
  rcases Nat.lt_or_ge i l.length with z | z
  ·exact z
  ·rw [List.getElem?_eq_none z] at hi; cases hi
 obtain ⟨b,o,e,r⟩:=rowAddr h (by omega)
 have:=r (i*3) 3 (by omega)
 rw [tk_get3 hi] at this
 exact ⟨b,o,e,this⟩
end Go.Ew
namespace Go.Proofs.Ytlgpleiobieniaa
open Go.Ev Go.Ew
namespace Va
section
variable (ok : EnvOk (env Try.prog))
include ok
theorem c4 {a b:OA} {n m c d:Nat} {H:KH} (h0:U8 H a n) (h1:U8 H b m):Does (env Try.prog) 4 [.slice a n c,.slice b m d] H fun v _=>v = .bool true:=by
 refine fn4 ok (c10 ⟨true,rfl,fun h=>(by cases h),fun _=>⟨fun _=>rfl,fun l0=>⟨fun _=>rfl,fun l1 n1 hn1=>?_⟩⟩⟩)
 have l0:n≤20:=by have:=of_decide_eq_false l0; omega
 have l1:m≤20:=by have:=of_decide_eq_false l1; omega
 generalize hE:(mkEnt [Value.string (ByteArray.mk #[105,100]),Value.string (ByteArray.mk #[91,97,45,99,48,93,43]),Value.bool false,Value.string (ByteArray.mk #[112,108,117,115]),Value.string (ByteArray.mk #[92,43]),Value.bool false,Value.string (ByteArray.mk #[115,112]),Value.string (ByteArray.mk #[32]),Value.bool true] 0:Ent)=E0
 have l2:=Le.new (e:=E0) hn1
 have hTk:TkR (H.new n1 E0) rJ (some ⟨n1,0,none⟩):=⟨[Value.string (ByteArray.mk #[105,100]),Value.string (ByteArray.mk #[91,97,45,99,48,93,43]),Value.bool false,Value.string (ByteArray.mk #[112,108,117,115]),Value.string (ByteArray.mk #[92,43]),Value.bool false,Value.string (ByteArray.mk #[115,112]),Value.string (ByteArray.mk #[32]),Value.bool true],lit_kold (by rw [hE]; exact if_pos rfl) rfl,_,_,_,rfl,_,_,_,rfl,_,_,_,rfl,rfl⟩
 refine c7 ok (rs:=rJ) hTk (by decide) (fun pats ra rc ts g H3 hEp hl3 hI hks hC=>⟨_,_,_,_,rfl,?_⟩) (fun pats H3 hEp hl3 hmany=>?_) fun hn=>absurd hn parsJ.no
 ·have hp:=hEp.same parsJ
  subst hp
  refine c11 ok (h0.mono (l2.trans hl3)) (by omega) fun s H9 hs _ hl9=>⟨s,rfl,c11 ok (h1.mono ((l2.trans hl3).trans hl9)) (by omega) fun t H12 ht _ hl12=>⟨t,rfl,?_⟩⟩
  have hz:(s++ByteArray.mk #[32]).size=s.size+1:=size_app _ _
  have hN:(s++ByteArray.mk #[32]++t).size=s.size+1+t.size:=by rw [size_app,hz]
  have hF:∀ w:ByteArray,w.size≤1000→∀ i,i<w.size→∃ n:Nat,(fstM g ts.length (fromB w i)).2=((n:Nat):Int)∧1≤n∧i+n≤w.size:=fun w hw i hi=>by
   have hsi:=fromB_size (s:=w) (i:=i) (by omega)
   obtain ⟨k,j,n,_,q1,q2,q3,_⟩:=fst_spec parsJ.par (by decide) hks hC (w:=fromB w i) (by omega) (by omega)
   exact ⟨n,q1,q2,by omega⟩
  have hI12:=hI.mono (hl9.trans hl12)
  refine c9 ok hI12 (by omega) (hF s (by omega)) fun l la lc ex H15 htl hl15 hGl=>⟨_,_,_,rfl,?_⟩
  refine c9 ok (hI12.mono hl15) (by omega) (hF t (by omega)) fun mm ma mc ex2 H20 htm hl20 hGm=>⟨_,_,_,rfl,⟨by show s.size+1≤_; omega,by rw [hz]; omega,?_⟩⟩
  refine c9 ok (hI12.mono (hl15.trans hl20)) (by omega) (hF _ (by omega)) fun all aa ac ex3 H25 hta hl25 hGa=>⟨_,_,_,rfl,fun q=>(by cases q),fun _=>?_⟩
  have hall:=tokJ hks hC (by omega) (by omega) htl htm hta
  have q1:=htl.len
  have q2:=htm.len
  have hlen:all.length=l.length+1+mm.length:=by rw [hall]; simp; omega
  have w1:IntKind.wrap .i64 (((l.length:Nat):Int)+1)=((l.length+1:Nat):Int):=by rw [wrap64 (by omega) (by omega)]; omega
  have w2:IntKind.wrap .i64 (((l.length+1:Nat):Int)+((mm.length:Nat):Int))=((l.length+1+mm.length:Nat):Int):=by rw [wrap64 (by omega) (by omega)]; omega
  rw [w1,w2]
  refine ⟨fun q=>absurd (by omega) (of_decide_eq_true q),fun _=>?_⟩
  have kl:=(hl20.trans hl25).kold hGl.row
  have km:=hl25.kold hGm.row
  have ka:=hGa.row
  unfold vc4_L6
  refine ⟨fun n3 s4 a5 n6 n7 a8 n9 n10 a11 n12 n13 x14 H17=>s4=s∧a5=la∧n6=l.length∧a8=ma∧n9=mm.length∧a11=aa∧n12=all.length∧H17=H25∧∃ i:Nat,x14=i∧i≤all.length∧n3=all.length-i,⟨all.length,rfl,rfl,rfl,rfl,rfl,rfl,rfl,rfl,0,rfl,by omega,rfl⟩,?_⟩
  rintro n3 s4 a5 n6 n7 a8 n9 n10 a11 n12 n13 x14 H17 ⟨rfl,rfl,rfl,rfl,rfl,rfl,rfl,rfl,i,rfl,hi,rfl⟩
  refine ⟨fun hlt=>?_,fun _=>rfl⟩
  have hlt:i<all.length:=by have:=of_decide_eq_true hlt; omega
  have e0:Int.toNat ((i:Nat):Int)=i:=by omega
  have wi:IntKind.wrap .i64 (((i:Nat):Int)+1)=((i+1:Nat):Int):=by rw [wrap64 (by omega) (by omega)]; omega
  have hai:all[i]? = some all[i]:=by simp [hlt]
  obtain ⟨b0,o0,ha0,ld0⟩:=tk_ld3 ka hai
  have hgo:∃ n6:Nat,n6<all.length-i∧(s4=s4∧a5=a5∧l.length=l.length∧a8=a8∧mm.length=mm.length∧a11=a11∧all.length=all.length∧H17=H17∧∃ i':Nat,IntKind.wrap .i64 (((i:Nat):Int)+1)=i'∧i'≤all.length∧n6=all.length-i'):=⟨all.length-(i+1),by omega,rfl,rfl,rfl,rfl,rfl,rfl,rfl,rfl,i+1,wi,by omega,rfl⟩
  rw [e0]
  refine ⟨fun hl=>?_,fun hl=>⟨fun hg=>?_,fun hg=>?_⟩⟩
  ·have hl:i<l.length:=by have:=of_decide_eq_true hl; omega
   have hli:l[i]? = some l[i]:=by simp [hl]
   obtain ⟨b1,o1,ha1,ld1⟩:=tk_ld3 kl hli
   have e:all[i]=l[i]:=by
    have:all[i]? = l[i]?:=by rw [hall,List.getElem?_append_left hl]
    rw [hai,hli] at this
    exact Option.some.inj this
   refine ⟨⟨by omega,by omega⟩,b1,o1,ha1,_,_,_,ld1,fun q=>absurd (of_decide_eq_true q) (by omega),fun _=>⟨trivial,⟨by omega,by omega⟩,b0,o0,ha0,_,_,_,ld0,fun q=>?_,fun _=>hgo⟩⟩
   rw [e] at q
   simp at q
  ·have hg:l.length<i:=by have:=of_decide_eq_true hg; omega
   obtain ⟨j,hj⟩:∃ j,i=l.length+1+j:=⟨i-l.length-1,by omega⟩
   have hjl:j<mm.length:=by omega
   have hmj:mm[j]? = some mm[j]:=by simp [hjl]
   obtain ⟨b1,o1,ha1,ld1⟩:=tk_ld3 km hmj
   have v1:IntKind.wrap .i64 (((i:Nat):Int)-((l.length:Nat):Int))=((j+1:Nat):Int):=by rw [wrap64 (by omega) (by omega)]; omega
   have v2:IntKind.wrap .i64 (((j+1:Nat):Int)-1)=((j:Nat):Int):=by rw [wrap64 (by omega) (by omega)]; omega
   have e1:Int.toNat ((j:Nat):Int)=j:=by omega
   have e:all[i]=shT (s4.size+1) mm[j]:=by
    have:all[i]? = some (shT (s4.size+1) mm[j]):=by
     rw [hall,hj,List.getElem?_append_right (by omega)]
     have:l.length+1+j-l.length=j+1:=by omega
     rw [this,List.getElem?_cons_succ,List.getElem?_map,hmj]
     rfl
    rw [hai] at this
    exact Option.some.inj this
   have hpl:mm[j].2.1≤t.size:=by
    have:∀ {N p:Nat} {r:List (Int × Nat × Int)} {F:Nat→Int × Int},Tks F N p r→∀ x∈r,x.2.1≤N:=by
     intro N p r F h
     induction h with
     | nil=>intro x hx; cases hx
     | @cons i0 n0 r0 h1 h2 h3 h4 hr ih =>
       intro x hx
       rcases List.mem_cons.1 hx with z | z
       ·rw [z]; show i0≤_; omega
       ·exact ih x z
    exact this htm _ (List.getElem_mem hjl)
   rw [v1,v2,e1]
   refine ⟨⟨by omega,by omega⟩,b1,o1,ha1,_,_,_,ld1,?_⟩
   unfold vc4_J0
   rw [e0]
   refine ⟨trivial,⟨by omega,by omega⟩,b0,o0,ha0,_,_,_,ld0,fun q=>?_,fun _=>hgo⟩
   have v3:IntKind.wrap .i64 (((mm[j].2.1:Nat):Int)+((s4.size:Nat):Int))=((mm[j].2.1+s4.size:Nat):Int):=by rw [wrap64 (by omega) (by omega)]; omega
   have v4:IntKind.wrap .i64 (((mm[j].2.1+s4.size:Nat):Int)+1)=((mm[j].2.1+s4.size+1:Nat):Int):=by rw [wrap64 (by omega) (by omega)]; omega
   rw [v3,v4,e] at q
   have v5:s4.size+1+mm[j].2.1=mm[j].2.1+s4.size+1:=by omega
   simp only [shT,v5] at q
   simp at q
  ·have hil:i=l.length:=by have:=of_decide_eq_false hl; have:=of_decide_eq_false hg; omega
   have e:all[i]=(2,s4.size,1):=by
    have:all[i]? = some (2,s4.size,1):=by
     rw [hall,hil,List.getElem?_append_right (by omega),Nat.sub_self]
     rfl
    rw [hai] at this
    exact Option.some.inj this
   refine ⟨trivial,⟨by omega,by omega⟩,b0,o0,ha0,_,_,_,ld0,fun q=>?_,fun _=>hgo⟩
   rw [e] at q
   simp at q
 ·exfalso
  have hp:=hEp.same parsJ
  subst hp
  have:clsAll pJ≤8:=by decide
  omega
end
end Va
end Go.Proofs.Ytlgpleiobieniaa
