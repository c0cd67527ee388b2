import Derived.Test.YtibkijpnkmccpaaEwGm4
set_option linter.unusedVariables false
set_option linter.unusedSimpArgs false
namespace Go.Ew
open Go.Ev Go.Deep
structure Cls2 (M:Nat) (Y:Int->Int->Bool) (p:Pr):Prop where
 n:(ofK (nlY Y) (fsY M Y) p.right).2=true->nlY Y p.left=true
 f:∀ t,(ofK (nlY Y) (fsY M Y) p.right).1 t=true->fsY M Y p.left t=true
theorem clsP_of {M:Nat} {Y:Int->Int->Bool} {p:Pr} (h:∀ k (hk:k<p.right.length),(p.right[k]).tok=false->ClsK M Y p k hk):ClsP (nlY Y) (fsY M Y) (flY M Y) p:=by
 refine ClsAt.all fun m hm _ ht t q=>h m hm ht t q
end Go.Ew
namespace Go.Proofs.Ytibkijpnkmccpaa
open Go.Ev Go.Ew
namespace Va
section
variable (ok : EnvOk (env Try.prog))
include ok
section
variable {g : Gm} {nb cF cO i : Nat} {fb ob : Nat -> Nat} {aF aO : OA} {Y0 : Int -> Int -> Bool} {z1 z4 z7 : OA} {z2 z3 z5 z6 z8 z9 : Nat}
theorem l12c {Z H:KH} {Y:Int->Int->Bool} {b:Bool} {n:Nat} {J:(Nat->(OA->(Nat->(Nat->(OA->(Nat->(Nat->(OA->(Nat->(Nat->(OA->(Nat->(Nat->(OA->(Nat->(Nat->(OA->(Nat->(Nat->(OA->(Nat->(Nat->(OA->(Nat->(Nat->(OA->(Nat->(Nat->(Bool->(Int->(KH->Prop)))))))))))))))))))))))))))))))} (hg:GI Z g) (hm:MayG g) (hi:i<g.prods.length) (w:Rk Z H g.prods g.nts.length g.toks.length nb fb ob aF aO Y0 Y b)
 (hJ:∀ H' Y' b',Rk Z H' g.prods g.nts.length g.toks.length nb fb ob aF aO Y0 Y' b'->(b'=false->b=false/\ClsP (nlY Y0) (fsY g.toks.length Y0) (flY g.toks.length Y0) g.prods[i])->∃ m,m<n/\J m g.ta g.toks.length g.tc g.na g.nts.length g.nc g.pa g.prods.length g.pc z1 z2 z3 z4 z5 z6 z7 z8 z9 (some ⟨nb,0,none⟩) g.nts.length g.nts.length aF g.nts.length cF aO g.nts.length cO b' ((i+1:Nat):Int) H') :
 vc13_L3 g.ta g.toks.length g.tc g.na g.nts.length g.nc g.pa g.prods.length g.pc z1 z2 z3 z4 z5 z6 z7 z8 z9 (some ⟨nb,0,none⟩) g.nts.length g.nts.length aF g.nts.length cF aO g.nts.length cO b ((i:Nat):Int) g.prods[i].left g.prods[i].ra g.prods[i].right.length g.prods[i].rc g.prods[i].ua g.prods[i].un g.prods[i].uc H n J:=by
 have hpo:=hm.pr i hi
 have hri:=hg.pi i hi
 have hsy:=SymsIn.of hm hi
 unfold vc13_L3
 refine ⟨fun k a4 n5 n6 a7 n8 n9 a10 n11 n12 a13 n14 n15 a16 n17 n18 a19 n20 n21 a22 n23 n24 a25 n26 n27 a28 n29 n30 b31 x32 x33 a34 n35 n36 a37 n38 n39 x40 H41=>(g.ta=a4/\g.toks.length=n5/\g.tc=n6/\g.na=a7/\g.nts.length=n8/\g.nc=n9/\g.pa=a10/\g.prods.length=n11/\g.pc=n12/\z1=a13/\z2=n14/\z3=n15/\z4=a16/\z5=n17/\z6=n18/\z7=a19/\z8=n20/\z9=n21/\some ⟨nb,0,none⟩=a22/\g.nts.length=n23/\g.nts.length=n24/\aF=a25/\g.nts.length=n26/\cF=n27/\aO=a28/\g.nts.length=n29/\cO=n30)/\((i:Nat):Int)=x32/\g.prods[i].left=x33/\g.prods[i].ra=a34/\g.prods[i].right.length=n35/\g.prods[i].rc=n36/\g.prods[i].ua=a37/\g.prods[i].un=n38/\g.prods[i].uc=n39/\∃ (t:Nat) (Yt:Int->Int->Bool),x40=t/\t<=g.prods[i].right.length/\k=g.prods[i].right.length-t/\Rk Z H41 g.prods g.nts.length g.toks.length nb fb ob aF aO Y0 Yt b31/\(b31=false->b=false/\∀ u (hu:u<g.prods[i].right.length),u<t->(g.prods[i].right[u]).tok=false->ClsK g.toks.length Y0 g.prods[i] u hu),⟨g.prods[i].right.length,⟨rfl,rfl,rfl,rfl,rfl,rfl,rfl,rfl,rfl,rfl,rfl,rfl,rfl,rfl,rfl,rfl,rfl,rfl,rfl,rfl,rfl,rfl,rfl,rfl,rfl,rfl,rfl⟩,rfl,rfl,rfl,rfl,rfl,rfl,rfl,rfl,0,Y,rfl,by omega,rfl,w,fun q=>⟨q,fun u _ y=>absurd y (by omega)⟩⟩,?_⟩
 rintro k a4 n5 n6 a7 n8 n9 a10 n11 n12 a13 n14 n15 a16 n17 n18 a19 n20 n21 a22 n23 n24 a25 n26 n27 a28 n29 n30 b31 x32 x33 a34 n35 n36 a37 n38 n39 x40 H41 ⟨⟨rfl,rfl,rfl,rfl,rfl,rfl,rfl,rfl,rfl,rfl,rfl,rfl,rfl,rfl,rfl,rfl,rfl,rfl,rfl,rfl,rfl,rfl,rfl,rfl,rfl,rfl,rfl⟩,rfl,rfl,rfl,rfl,rfl,rfl,rfl,rfl,t,Yt,rfl,ht,rfl,w,hc⟩
 refine ⟨fun z=>?_,fun z=>?_⟩
 .have z:t<g.prods[i].right.length:=by have:=of_decide_eq_true z; omega
  have et:Int.toNat ((t:Nat):Int)=t:=by omega
  have ht1:IntKind.wrap .i64 (((t:Nat):Int)+1)=((t+1:Nat):Int):=by have:=hpo.b; rw [wrap64 (by omega) (by omega)]; omega
  obtain ⟨b1,o1,ha1,r1⟩:=sy_ld (w.s.b.le.kold hri.1) z
  rw [et]
  refine ⟨⟨by omega,by omega⟩,b1,o1,ha1,rfl,_,ldSub (m:=1) r1 0 (by simp),fun q=>?_,fun q=>?_⟩
  .have q:(g.prods[i].right[t]).tok=false:=by cases e:(g.prods[i].right[t]).tok<;>rw [e] at q<;>first | rfl | cases q
   refine c28 ok w hg hm hi z q fun H5 Y' m w' hm'=>⟨m,rfl,fun y=>?_,fun y=>?_⟩
   .subst y
    rw [ht1]
    exact ⟨g.prods[i].right.length-(t+1),by omega,⟨rfl,rfl,rfl,rfl,rfl,rfl,rfl,rfl,rfl,rfl,rfl,rfl,rfl,rfl,rfl,rfl,rfl,rfl,rfl,rfl,rfl,rfl,rfl,rfl,rfl,rfl,rfl⟩,rfl,rfl,rfl,rfl,rfl,rfl,rfl,rfl,t+1,Y',rfl,by omega,rfl,by rw [Bool.or_true] at w'; exact w',fun q=>by cases q⟩
   .subst y
    rw [Bool.or_false] at w'
    rw [ht1]
    refine ⟨g.prods[i].right.length-(t+1),by omega,⟨rfl,rfl,rfl,rfl,rfl,rfl,rfl,rfl,rfl,rfl,rfl,rfl,rfl,rfl,rfl,rfl,rfl,rfl,rfl,rfl,rfl,rfl,rfl,rfl,rfl,rfl,rfl⟩,rfl,rfl,rfl,rfl,rfl,rfl,rfl,rfl,t+1,Y',rfl,by omega,rfl,w',fun qb=>⟨(hc qb).1,fun u hu hut hutk=>?_⟩⟩
    by_cases e:u=t
    .subst e
     have:=(hm' rfl).2
     rw [w.t.no qb] at this
     exact this
    .exact (hc qb).2 u hu (by omega) hutk
  .have q:(g.prods[i].right[t]).tok=true:=by cases e:(g.prods[i].right[t]).tok<;>rw [e] at q<;>first | rfl | cases q
   rw [ht1]
   refine ⟨g.prods[i].right.length-(t+1),by omega,⟨rfl,rfl,rfl,rfl,rfl,rfl,rfl,rfl,rfl,rfl,rfl,rfl,rfl,rfl,rfl,rfl,rfl,rfl,rfl,rfl,rfl,rfl,rfl,rfl,rfl,rfl,rfl⟩,rfl,rfl,rfl,rfl,rfl,rfl,rfl,rfl,t+1,Yt,rfl,by omega,rfl,w,fun qb=>⟨(hc qb).1,fun u hu hut hutk=>?_⟩⟩
   by_cases e:u=t
   .subst e; rw [q] at hutk; cases hutk
   .exact (hc qb).2 u hu (by omega) hutk
 .have z:t=g.prods[i].right.length:=by have:=of_decide_eq_false z; omega
  subst z
  have hi1:IntKind.wrap .i64 (((i:Nat):Int)+1)=((i+1:Nat):Int):=by have:=hm.p; rw [wrap64 (by omega) (by omega)]; omega
  rw [hi1]
  exact hJ H41 Yt b31 w fun qb=>⟨(hc qb).1,clsP_of fun u hu hut=>(hc qb).2 u hu hu hut⟩
omit ok in
theorem l12J {Z H:KH} {Y:Int->Int->Bool} {b:Bool} {n rb t x42:Nat} {f:Int->Bool} {x35:Int} {a36 a39:OA} {n37 n38 n40 n41:Nat} {J:(Nat->(OA->(Nat->(Nat->(OA->(Nat->(Nat->(OA->(Nat->(Nat->(OA->(Nat->(Nat->(OA->(Nat->(Nat->(OA->(Nat->(Nat->(OA->(Nat->(Nat->(OA->(Nat->(Nat->(OA->(Nat->(Nat->(Bool->(Int->(Int->(OA->(Nat->(Nat->(OA->(Nat->(Nat->(OA->(Nat->(Nat->(Int->(KH->Prop))))))))))))))))))))))))))))))))))))))))))} (hm:MayG g) (hi:i<g.prods.length) (w:Rk Z H g.prods g.nts.length g.toks.length nb fb ob aF aO Y0 Y b) (kr:kold H 1 (some ⟨rb,0,none⟩) g.toks.length=some (famC (bit1 f) g.toks.length)) (hf:∀ t,f t=true->Fst g.prods g.prods[i].left t) (ht:t<g.toks.length)
 (hJ:∀ H' Y' b',Rk Z H' g.prods g.nts.length g.toks.length nb fb ob aF aO Y0 Y' b'->(b'=false->b=false/\(f (t:Int)=true->fsY g.toks.length Y g.prods[i].left t=true))->∃ m,m<n/\J m g.ta g.toks.length g.tc g.na g.nts.length g.nc g.pa g.prods.length g.pc z1 z2 z3 z4 z5 z6 z7 z8 z9 (some ⟨nb,0,none⟩) g.nts.length g.nts.length aF g.nts.length cF aO g.nts.length cO b' x35 g.prods[i].left a36 n37 n38 a39 n40 n41 (some ⟨rb,0,none⟩) g.toks.length x42 ((t+1:Nat):Int) H') :
 vc13_J1 ((t:Nat):Int) g.toks.length (some ⟨rb,0,none⟩) H g.prods[i].left g.nts.length aF n J g.ta g.toks.length g.tc g.na g.nts.length g.nc g.pa g.prods.length g.pc z1 z2 z3 z4 z5 z6 z7 z8 z9 (some ⟨nb,0,none⟩) g.nts.length g.nts.length cF aO g.nts.length cO x35 a36 n37 n38 a39 n40 n41 x42 b:=by
 have hpo:=hm.pr i hi
 have hT:=hm.t
 have et:Int.toNat ((t:Nat):Int)=t:=by omega
 have ht1:IntKind.wrap .i64 (((t:Nat):Int)+1)=((t+1:Nat):Int):=by rw [wrap64 (by omega) (by omega)]; omega
 have lo:((g.prods[i].left.toNat:Nat):Int)=g.prods[i].left:=by have:=hpo.a; omega
 have bt:0<=((t:Nat):Int)/\((t:Nat):Int)<g.toks.length:=⟨by omega,by omega⟩
 obtain ⟨b1,o1,ha1,r1⟩:=bit_ld kr ht
 obtain ⟨b2,o2,ha2,r2⟩:=w.s.hdF (i:=g.prods[i].left.toNat) (by have:=hpo.a; omega)
 have r3:=w.s.ldF (i:=g.prods[i].left.toNat) (t:=t) (by have:=hpo.a; omega) ht
 have r4:=w.s.setF (i:=g.prods[i].left.toNat) (t:=t) (by have:=hpo.a; omega) ht
 rw [lo] at r3 r4
 have fst:fsY g.toks.length Y g.prods[i].left t=Y g.prods[i].left (1+(t:Int)):=fsY_at (by omega) (by omega)
 unfold vc13_J1
 rw [et,ht1]
 refine ⟨bt,b1,o1,ha1,_,r1,fun q=>⟨hpo.a,b2,o2,ha2,_,_,_,r2,bt,_,0,rfl,_,r3,fun q2=>?_,fun q2=>?_⟩,fun q=>?_⟩
 .have q2:Y g.prods[i].left (1+(t:Int))=false:=by cases e:Y g.prods[i].left (1+(t:Int))<;>rw [e] at q2<;>first | rfl | cases q2
  exact ⟨hpo.a,b2,o2,ha2,_,_,_,r2,bt,_,0,rfl,⟨[.bool (Y g.prods[i].left (1+(t:Int)))],rfl,r3⟩,Bxs.may w.s.b (j:=.f g.prods[i].left.toNat) (show _<_ by have:=hpo.a; omega),hJ _ _ true (w.set r4 hpo.a ⟨by omega,by omega⟩ (w.d.setF ht (hf _ q)) q2) fun q=>by cases q⟩
 .have q2:Y g.prods[i].left (1+(t:Int))=true:=by cases e:Y g.prods[i].left (1+(t:Int))<;>rw [e] at q2<;>first | rfl | cases q2
  exact hJ H Y b w fun qb=>⟨qb,fun _=>by rw [fst]; exact q2⟩
 .exact hJ H Y b w fun qb=>⟨qb,fun y=>by rw [q] at y; cases y⟩
theorem l12fL4 {Z H0 H:KH} {Y:Int->Int->Bool} {p q n rb:Nat} {f:Int->Bool} {J:(Nat->(OA->(Nat->(Nat->(OA->(Nat->(Nat->(OA->(Nat->(Nat->(OA->(Nat->(Nat->(OA->(Nat->(Nat->(OA->(Nat->(Nat->(OA->(Nat->(Nat->(OA->(Nat->(Nat->(OA->(Nat->(Nat->(Bool->(Int->(KH->Prop)))))))))))))))))))))))))))))))} (hg:GI Z g) (hm:MayG g) (hi:i<g.prods.length) (hK:H0.put ⟨p,q+(Int.toNat g.prods[i].left)*1,none⟩ [.bool true]=H) (w:Rk Z H g.prods g.nts.length g.toks.length nb fb ob aF aO Y0 Y true) (kr:kold Z 1 (some ⟨rb,0,none⟩) g.toks.length=some (famC (bit1 f) g.toks.length)) (hf:∀ t,f t=true->Fst g.prods g.prods[i].left t)
 (hJ:∀ H' Y' b',Rk Z H' g.prods g.nts.length g.toks.length nb fb ob aF aO Y0 Y' b'->(b'=false->true=false/\(∀ t,f t=true->fsY g.toks.length Y0 g.prods[i].left t=true)/\ClsP (nlY Y0) (fsY g.toks.length Y0) (flY g.toks.length Y0) g.prods[i])->∃ m,m<n/\J m g.ta g.toks.length g.tc g.na g.nts.length g.nc g.pa g.prods.length g.pc z1 z2 z3 z4 z5 z6 z7 z8 z9 (some ⟨nb,0,none⟩) g.nts.length g.nts.length aF g.nts.length cF aO g.nts.length cO b' ((i+1:Nat):Int) H') (hfin:∀ t,f t=true->0<=t/\t<g.toks.length) :
 vc13_L4 g.ta g.toks.length g.tc g.na g.nts.length g.nc g.pa g.prods.length g.pc z1 z2 z3 z4 z5 z6 z7 z8 z9 (some ⟨nb,0,none⟩) g.nts.length g.nts.length aF g.nts.length cF aO g.nts.length cO ((i:Nat):Int) g.prods[i].left g.prods[i].ra g.prods[i].right.length g.prods[i].rc g.prods[i].ua g.prods[i].un g.prods[i].uc (some ⟨rb,0,none⟩) g.toks.length g.toks.length H0 p q n J:=by
 have hT:=hm.t
 unfold vc13_L4
 rw [hK]
 refine ⟨fun k a4 n5 n6 a7 n8 n9 a10 n11 n12 a13 n14 n15 a16 n17 n18 a19 n20 n21 a22 n23 n24 a25 n26 n27 a28 n29 n30 b31 x32 x33 a34 n35 n36 a37 n38 n39 a40 n41 n42 x43 H44=>(g.ta=a4/\g.toks.length=n5/\g.tc=n6/\g.na=a7/\g.nts.length=n8/\g.nc=n9/\g.pa=a10/\g.prods.length=n11/\g.pc=n12/\z1=a13/\z2=n14/\z3=n15/\z4=a16/\z5=n17/\z6=n18/\z7=a19/\z8=n20/\z9=n21/\some ⟨nb,0,none⟩=a22/\g.nts.length=n23/\g.nts.length=n24/\aF=a25/\g.nts.length=n26/\cF=n27/\aO=a28/\g.nts.length=n29/\cO=n30)/\((i:Nat):Int)=x32/\g.prods[i].left=x33/\g.prods[i].ra=a34/\g.prods[i].right.length=n35/\g.prods[i].rc=n36/\g.prods[i].ua=a37/\g.prods[i].un=n38/\g.prods[i].uc=n39/\some ⟨rb,0,none⟩=a40/\g.toks.length=n41/\∃ (t:Nat) (Yt:Int->Int->Bool),x43=t/\t<=g.toks.length/\k=g.toks.length-t/\Rk Z H44 g.prods g.nts.length g.toks.length nb fb ob aF aO Y0 Yt b31/\(b31=false->true=false/\∀ u:Nat,u<t->f (u:Int)=true->fsY g.toks.length Y0 g.prods[i].left u=true),⟨g.toks.length,⟨rfl,rfl,rfl,rfl,rfl,rfl,rfl,rfl,rfl,rfl,rfl,rfl,rfl,rfl,rfl,rfl,rfl,rfl,rfl,rfl,rfl,rfl,rfl,rfl,rfl,rfl,rfl⟩,rfl,rfl,rfl,rfl,rfl,rfl,rfl,rfl,rfl,rfl,0,Y,rfl,by omega,rfl,w,fun q=>⟨q,fun u y=>absurd y (by omega)⟩⟩,?_⟩
 rintro k a4 n5 n6 a7 n8 n9 a10 n11 n12 a13 n14 n15 a16 n17 n18 a19 n20 n21 a22 n23 n24 a25 n26 n27 a28 n29 n30 b31 x32 x33 a34 n35 n36 a37 n38 n39 a40 n41 n42 x43 H44 ⟨⟨rfl,rfl,rfl,rfl,rfl,rfl,rfl,rfl,rfl,rfl,rfl,rfl,rfl,rfl,rfl,rfl,rfl,rfl,rfl,rfl,rfl,rfl,rfl,rfl,rfl,rfl,rfl⟩,rfl,rfl,rfl,rfl,rfl,rfl,rfl,rfl,rfl,rfl,t,Yt,rfl,ht,rfl,w,hc⟩
 refine ⟨fun z=>?_,fun z=>?_⟩
 .have z:t<g.toks.length:=by have:=of_decide_eq_true z; omega
  refine l12J hm hi w (w.s.b.le.kold kr) hf z fun H' Y' b' w' h'=>⟨g.toks.length-(t+1),by omega,⟨rfl,rfl,rfl,rfl,rfl,rfl,rfl,rfl,rfl,rfl,rfl,rfl,rfl,rfl,rfl,rfl,rfl,rfl,rfl,rfl,rfl,rfl,rfl,rfl,rfl,rfl,rfl⟩,rfl,rfl,rfl,rfl,rfl,rfl,rfl,rfl,rfl,rfl,t+1,Y',rfl,by omega,rfl,w',fun qb=>?_⟩
  obtain ⟨h1,h2⟩:=h' qb
  refine ⟨(hc h1).1,fun u hu hfu=>?_⟩
  by_cases e:u=t
  .subst e
   rw [w.t.no h1] at h2
   exact h2 hfu
  .exact (hc h1).2 u (by omega) hfu
 .have z:t=g.toks.length:=by have:=of_decide_eq_false z; omega
  subst z
  refine l12c ok hg hm hi w fun H' Y' b' w' h'=>hJ H' Y' b' w' fun qb=>?_
  obtain ⟨h1,h2⟩:=h' qb
  refine ⟨(hc h1).1,fun u hfu=>?_,h2⟩
  have hr:=hfin u hfu
  have eu:((u.toNat:Nat):Int)=u:=by omega
  have:=(hc h1).2 u.toNat (by omega)
  rw [eu] at this
  exact this hfu
theorem l12fL5 {Z H:KH} {Y:Int->Int->Bool} {n rb:Nat} {b:Bool} {f:Int->Bool} {J:(Nat->(OA->(Nat->(Nat->(OA->(Nat->(Nat->(OA->(Nat->(Nat->(OA->(Nat->(Nat->(OA->(Nat->(Nat->(OA->(Nat->(Nat->(OA->(Nat->(Nat->(OA->(Nat->(Nat->(OA->(Nat->(Nat->(Bool->(Int->(KH->Prop)))))))))))))))))))))))))))))))} (hg:GI Z g) (hm:MayG g) (hi:i<g.prods.length) (w:Rk Z H g.prods g.nts.length g.toks.length nb fb ob aF aO Y0 Y b) (kr:kold Z 1 (some ⟨rb,0,none⟩) g.toks.length=some (famC (bit1 f) g.toks.length)) (hf:∀ t,f t=true->Fst g.prods g.prods[i].left t)
 (hJ:∀ H' Y' b',Rk Z H' g.prods g.nts.length g.toks.length nb fb ob aF aO Y0 Y' b'->(b'=false->b=false/\(∀ t,f t=true->fsY g.toks.length Y0 g.prods[i].left t=true)/\ClsP (nlY Y0) (fsY g.toks.length Y0) (flY g.toks.length Y0) g.prods[i])->∃ m,m<n/\J m g.ta g.toks.length g.tc g.na g.nts.length g.nc g.pa g.prods.length g.pc z1 z2 z3 z4 z5 z6 z7 z8 z9 (some ⟨nb,0,none⟩) g.nts.length g.nts.length aF g.nts.length cF aO g.nts.length cO b' ((i+1:Nat):Int) H') (hfin:∀ t,f t=true->0<=t/\t<g.toks.length) :
 vc13_L5 g.ta g.toks.length g.tc g.na g.nts.length g.nc g.pa g.prods.length g.pc z1 z2 z3 z4 z5 z6 z7 z8 z9 (some ⟨nb,0,none⟩) g.nts.length g.nts.length aF g.nts.length cF aO g.nts.length cO b ((i:Nat):Int) g.prods[i].left g.prods[i].ra g.prods[i].right.length g.prods[i].rc g.prods[i].ua g.prods[i].un g.prods[i].uc (some ⟨rb,0,none⟩) g.toks.length g.toks.length H n J:=by
 have hT:=hm.t
 unfold vc13_L5
 refine ⟨fun k a4 n5 n6 a7 n8 n9 a10 n11 n12 a13 n14 n15 a16 n17 n18 a19 n20 n21 a22 n23 n24 a25 n26 n27 a28 n29 n30 b31 x32 x33 a34 n35 n36 a37 n38 n39 a40 n41 n42 x43 H44=>(g.ta=a4/\g.toks.length=n5/\g.tc=n6/\g.na=a7/\g.nts.length=n8/\g.nc=n9/\g.pa=a10/\g.prods.length=n11/\g.pc=n12/\z1=a13/\z2=n14/\z3=n15/\z4=a16/\z5=n17/\z6=n18/\z7=a19/\z8=n20/\z9=n21/\some ⟨nb,0,none⟩=a22/\g.nts.length=n23/\g.nts.length=n24/\aF=a25/\g.nts.length=n26/\cF=n27/\aO=a28/\g.nts.length=n29/\cO=n30)/\((i:Nat):Int)=x32/\g.prods[i].left=x33/\g.prods[i].ra=a34/\g.prods[i].right.length=n35/\g.prods[i].rc=n36/\g.prods[i].ua=a37/\g.prods[i].un=n38/\g.prods[i].uc=n39/\some ⟨rb,0,none⟩=a40/\g.toks.length=n41/\∃ (t:Nat) (Yt:Int->Int->Bool),x43=t/\t<=g.toks.length/\k=g.toks.length-t/\Rk Z H44 g.prods g.nts.length g.toks.length nb fb ob aF aO Y0 Yt b31/\(b31=false->b=false/\∀ u:Nat,u<t->f (u:Int)=true->fsY g.toks.length Y0 g.prods[i].left u=true),⟨g.toks.length,⟨rfl,rfl,rfl,rfl,rfl,rfl,rfl,rfl,rfl,rfl,rfl,rfl,rfl,rfl,rfl,rfl,rfl,rfl,rfl,rfl,rfl,rfl,rfl,rfl,rfl,rfl,rfl⟩,rfl,rfl,rfl,rfl,rfl,rfl,rfl,rfl,rfl,rfl,0,Y,rfl,by omega,rfl,w,fun q=>⟨q,fun u y=>absurd y (by omega)⟩⟩,?_⟩
 rintro k a4 n5 n6 a7 n8 n9 a10 n11 n12 a13 n14 n15 a16 n17 n18 a19 n20 n21 a22 n23 n24 a25 n26 n27 a28 n29 n30 b31 x32 x33 a34 n35 n36 a37 n38 n39 a40 n41 n42 x43 H44 ⟨⟨rfl,rfl,rfl,rfl,rfl,rfl,rfl,rfl,rfl,rfl,rfl,rfl,rfl,rfl,rfl,rfl,rfl,rfl,rfl,rfl,rfl,rfl,rfl,rfl,rfl,rfl,rfl⟩,rfl,rfl,rfl,rfl,rfl,rfl,rfl,rfl,rfl,rfl,t,Yt,rfl,ht,rfl,w,hc⟩
 refine ⟨fun z=>?_,fun z=>?_⟩
 .have z:t<g.toks.length:=by have:=of_decide_eq_true z; omega
  refine l12J hm hi w (w.s.b.le.kold kr) hf z fun H' Y' b' w' h'=>⟨g.toks.length-(t+1),by omega,⟨rfl,rfl,rfl,rfl,rfl,rfl,rfl,rfl,rfl,rfl,rfl,rfl,rfl,rfl,rfl,rfl,rfl,rfl,rfl,rfl,rfl,rfl,rfl,rfl,rfl,rfl,rfl⟩,rfl,rfl,rfl,rfl,rfl,rfl,rfl,rfl,rfl,rfl,t+1,Y',rfl,by omega,rfl,w',fun qb=>?_⟩
  obtain ⟨h1,h2⟩:=h' qb
  refine ⟨(hc h1).1,fun u hu hfu=>?_⟩
  by_cases e:u=t
  .subst e
   rw [w.t.no h1] at h2
   exact h2 hfu
  .exact (hc h1).2 u (by omega) hfu
 .have z:t=g.toks.length:=by have:=of_decide_eq_false z; omega
  subst z
  refine l12c ok hg hm hi w fun H' Y' b' w' h'=>hJ H' Y' b' w' fun qb=>?_
  obtain ⟨h1,h2⟩:=h' qb
  refine ⟨(hc h1).1,fun u hfu=>?_,h2⟩
  have hr:=hfin u hfu
  have eu:((u.toNat:Nat):Int)=u:=by omega
  have:=(hc h1).2 u.toNat (by omega)
  rw [eu] at this
  exact this hfu
theorem l12r {Z H:KH} {Y:Int->Int->Bool} {n:Nat} {J:(Nat->(OA->(Nat->(Nat->(OA->(Nat->(Nat->(OA->(Nat->(Nat->(OA->(Nat->(Nat->(OA->(Nat->(Nat->(OA->(Nat->(Nat->(OA->(Nat->(Nat->(OA->(Nat->(Nat->(OA->(Nat->(Nat->(Bool->(KH->Prop))))))))))))))))))))))))))))))} (hg:GI Z g) (hm:MayG g) (w:Rk Z H g.prods g.nts.length g.toks.length nb fb ob aF aO Y Y false)
 (hJ:∀ H' Y' b',Rk Z H' g.prods g.nts.length g.toks.length nb fb ob aF aO Y Y' b'->(b'=false->∀ p∈g.prods,Cls1 g.toks.length Y p)->∃ m,m<n/\J m g.ta g.toks.length g.tc g.na g.nts.length g.nc g.pa g.prods.length g.pc z1 z2 z3 z4 z5 z6 z7 z8 z9 (some ⟨nb,0,none⟩) g.nts.length g.nts.length aF g.nts.length cF aO g.nts.length cO b' H') :
 vc13_L7 g.ta g.toks.length g.tc g.na g.nts.length g.nc g.pa g.prods.length g.pc z1 z2 z3 z4 z5 z6 z7 z8 z9 (some ⟨nb,0,none⟩) g.nts.length g.nts.length aF g.nts.length cF aO g.nts.length cO H n J:=by
 unfold vc13_L7
 refine ⟨fun k a4 n5 n6 a7 n8 n9 a10 n11 n12 a13 n14 n15 a16 n17 n18 a19 n20 n21 a22 n23 n24 a25 n26 n27 a28 n29 n30 b31 x32 H33=>(g.ta=a4/\g.toks.length=n5/\g.tc=n6/\g.na=a7/\g.nts.length=n8/\g.nc=n9/\g.pa=a10/\g.prods.length=n11/\g.pc=n12/\z1=a13/\z2=n14/\z3=n15/\z4=a16/\z5=n17/\z6=n18/\z7=a19/\z8=n20/\z9=n21/\some ⟨nb,0,none⟩=a22/\g.nts.length=n23/\g.nts.length=n24/\aF=a25/\g.nts.length=n26/\cF=n27/\aO=a28/\g.nts.length=n29/\cO=n30)/\∃ (t:Nat) (Yt:Int->Int->Bool),x32=t/\t<=g.prods.length/\k=g.prods.length-t/\Rk Z H33 g.prods g.nts.length g.toks.length nb fb ob aF aO Y Yt b31/\(b31=false->∀ u (hu:u<g.prods.length),u<t->Cls1 g.toks.length Y g.prods[u]),⟨g.prods.length,⟨rfl,rfl,rfl,rfl,rfl,rfl,rfl,rfl,rfl,rfl,rfl,rfl,rfl,rfl,rfl,rfl,rfl,rfl,rfl,rfl,rfl,rfl,rfl,rfl,rfl,rfl,rfl⟩,0,Y,rfl,by omega,rfl,w,fun q u _ y=>absurd y (by omega)⟩,?_⟩
 rintro k a4 n5 n6 a7 n8 n9 a10 n11 n12 a13 n14 n15 a16 n17 n18 a19 n20 n21 a22 n23 n24 a25 n26 n27 a28 n29 n30 b31 x32 H33 ⟨⟨rfl,rfl,rfl,rfl,rfl,rfl,rfl,rfl,rfl,rfl,rfl,rfl,rfl,rfl,rfl,rfl,rfl,rfl,rfl,rfl,rfl,rfl,rfl,rfl,rfl,rfl,rfl⟩,t,Yt,rfl,ht,rfl,w,hc⟩
 refine ⟨fun z=>?_,fun z=>?_⟩
 .have z:t<g.prods.length:=by have:=of_decide_eq_true z; omega
  have et:Int.toNat ((t:Nat):Int)=t:=by omega
  have hpo:=hm.pr t z
  have hri:=hg.pi t z
  have hsy:=SymsIn.of hm z
  have hT:=hm.t
  obtain ⟨b0,o0,ha,r0⟩:=pr_ld (hg.up w.s.b.le).p z
  have lo:((g.prods[t].left.toNat:Nat):Int)=g.prods[t].left:=by have:=hpo.a; omega
  have fin:∀ {Z' H':KH} {Y':Int->Int->Bool} {b b':Bool},Le Z Z'->Rk Z' H' g.prods g.nts.length g.toks.length nb fb ob aF aO Y Y' b'->(b'=false->b31=false/\Cls2 g.toks.length Y g.prods[t]/\ClsP (nlY Y) (fsY g.toks.length Y) (flY g.toks.length Y) g.prods[t])->∃ m,m<g.prods.length-t/\(g.ta=g.ta/\g.toks.length=g.toks.length/\g.tc=g.tc/\g.na=g.na/\g.nts.length=g.nts.length/\g.nc=g.nc/\g.pa=g.pa/\g.prods.length=g.prods.length/\g.pc=g.pc/\z1=z1/\z2=z2/\z3=z3/\z4=z4/\z5=z5/\z6=z6/\z7=z7/\z8=z8/\z9=z9/\(some ⟨nb,0,none⟩:OA)=some ⟨nb,0,none⟩/\g.nts.length=g.nts.length/\g.nts.length=g.nts.length/\aF=aF/\g.nts.length=g.nts.length/\cF=cF/\aO=aO/\g.nts.length=g.nts.length/\cO=cO)/\∃ (t':Nat) (Yt:Int->Int->Bool),((t+1:Nat):Int)=t'/\t'<=g.prods.length/\m=g.prods.length-t'/\Rk Z H' g.prods g.nts.length g.toks.length nb fb ob aF aO Y Yt b'/\(b'=false->∀ u (hu:u<g.prods.length),u<t'->Cls1 g.toks.length Y g.prods[u]):=fun {Z' H' Y' b b'} lZ w' h=>⟨g.prods.length-(t+1),by omega,⟨rfl,rfl,rfl,rfl,rfl,rfl,rfl,rfl,rfl,rfl,rfl,rfl,rfl,rfl,rfl,rfl,rfl,rfl,rfl,rfl,rfl,rfl,rfl,rfl,rfl,rfl,rfl⟩,t+1,Y',rfl,by omega,rfl,w'.less lZ w.s.hf w.s.ho,fun qb u hu hut=>by
   obtain ⟨h1,h2,h3⟩:=h qb
   by_cases e:u=t
   .subst e; exact ⟨h2.n,h2.f,h3⟩
   .exact hc h1 u hu (by omega)⟩
  rw [et]
  refine ⟨⟨by omega,by omega⟩,b0,o0,ha,_,_,_,_,_,_,_,r0,c27 ok w.s (w.s.b.le.kold hri.1) hsy hT.2 (by have:=hpo.b; omega) fun rb H11 l11 hrb kr=>⟨_,_,_,_,rfl,fun q=>?_,fun q=>?_⟩⟩
  .obtain ⟨Z',lZ,w',kr⟩:=(w.up l11).row w.s hrb kr
   obtain ⟨v1,v2⟩:=ofK_sound w.d.n w.d.f g.prods[t].right
   have hfst:∀ u,(ofK (nlY Yt) (fsY g.toks.length Yt) g.prods[t].right).1 u=true->Fst g.prods g.prods[t].left u:=fun u y=>FstR.left (List.getElem_mem z) (v2 u y)
   have rn:=w'.s.ldN (i:=g.prods[t].left.toNat) (by have:=hpo.a; omega)
   have rs:=w'.s.setN (i:=g.prods[t].left.toNat) (by have:=hpo.a; omega)
   rw [lo] at rn rs
   refine ⟨hpo.a,nb,0,rfl,_,rn,fun q2=>?_,fun q2=>?_⟩
   .have q2:Yt g.prods[t].left 0=false:=by cases e:Yt g.prods[t].left 0<;>rw [e] at q2<;>first | rfl | cases q2
    refine ⟨hpo.a,nb,0,rfl,⟨[.bool (Yt g.prods[t].left 0)],rfl,rn⟩,Bxs.may w'.s.b (j:=.n) trivial,?_⟩
    have w2:=w'.set rs hpo.a ⟨by omega,by omega⟩ (w'.d.setN (NulR.left (List.getElem_mem z) (v1 q))) q2
    exact l12fL4 ok (i:=t) (hg.up lZ) hm z rfl w2 kr hfst (fun H' Y' b' w3 h3=>fin (b:=true) lZ w3 fun qb=>by cases (h3 qb).1) (ofK_in hsy)
   .have q2:Yt g.prods[t].left 0=true:=by cases e:Yt g.prods[t].left 0<;>rw [e] at q2<;>first | rfl | cases q2
    refine l12fL5 ok (i:=t) (hg.up lZ) hm z w' kr hfst (fun H' Y' b' w3 h3=>fin (b:=b31) lZ w3 fun qb=>?_) (ofK_in hsy)
    obtain ⟨h4,h5,h6⟩:=h3 qb
    rw [w.t.no h4] at h5 q2
    exact ⟨h4,⟨fun _=>q2,h5⟩,h6⟩
  .obtain ⟨Z',lZ,w',kr⟩:=(w.up l11).row w.s hrb kr
   obtain ⟨v1,v2⟩:=ofK_sound w.d.n w.d.f g.prods[t].right
   have hfst:∀ u,(ofK (nlY Yt) (fsY g.toks.length Yt) g.prods[t].right).1 u=true->Fst g.prods g.prods[t].left u:=fun u y=>FstR.left (List.getElem_mem z) (v2 u y)
   refine l12fL5 ok (i:=t) (hg.up lZ) hm z w' kr hfst (fun H' Y' b' w3 h3=>fin (b:=b31) lZ w3 fun qb=>?_) (ofK_in hsy)
   obtain ⟨h4,h5,h6⟩:=h3 qb
   rw [w.t.no h4] at h5 q
   exact ⟨h4,⟨fun y=>(by rw [q] at y; cases y),h5⟩,h6⟩
 .have z:t=g.prods.length:=by have:=of_decide_eq_false z; omega
  subst z
  exact hJ H33 Yt b31 w fun qb p hp=>by
   obtain ⟨u,hu,rfl⟩:=List.mem_iff_getElem.1 hp
   exact hc qb u hu hu
theorem l12s {Z H K:KH} {Y:Int->Int->Bool} {p q:Nat} {Q:PQ} (hg:GI Z g) (hm:MayG g) (hK:H.put ⟨p,q+(Int.toNat ((g.toks.length:Nat):Int))*1,none⟩ [.bool true]=K) (w:Rk Z K g.prods g.nts.length g.toks.length nb fb ob aF aO Y Y false) (h0:flY g.toks.length Y 0 g.toks.length=true)
 (hq:∀ H' Y',RefS Z H' g.nts.length g.toks.length nb fb ob aF aO Y'->IsN g.prods (nlY Y')->IsF g.prods (fsY g.toks.length Y')->IsL g.prods g.toks.length (flY g.toks.length Y')->Q (.agg #[.slice (some ⟨nb,0,none⟩) g.nts.length g.nts.length,.slice aF g.nts.length cF,.slice aO g.nts.length cO]) H') :
 vc13_L8 g.ta g.toks.length g.tc g.na g.nts.length g.nc g.pa g.prods.length g.pc z1 z2 z3 z4 z5 z6 z7 z8 z9 (some ⟨nb,0,none⟩) g.nts.length g.nts.length aF g.nts.length cF aO g.nts.length cO H p q Q:=by
 unfold vc13_L8
 rw [hK]
 refine ⟨fun k a4 n5 n6 a7 n8 n9 a10 n11 n12 a13 n14 n15 a16 n17 n18 a19 n20 n21 a22 n23 n24 a25 n26 n27 a28 n29 n30 b31 H32=>(g.ta=a4/\g.toks.length=n5/\g.tc=n6/\g.na=a7/\g.nts.length=n8/\g.nc=n9/\g.pa=a10/\g.prods.length=n11/\g.pc=n12/\z1=a13/\z2=n14/\z3=n15/\z4=a16/\z5=n17/\z6=n18/\z7=a19/\z8=n20/\z9=n21/\some ⟨nb,0,none⟩=a22/\g.nts.length=n23/\g.nts.length=n24/\aF=a25/\g.nts.length=n26/\cF=n27/\aO=a28/\g.nts.length=n29/\cO=n30)/\∃ Yt:Int->Int->Bool,Rk Z H32 g.prods g.nts.length g.toks.length nb fb ob aF aO Yt Yt false/\flY g.toks.length Yt 0 g.toks.length=true/\(b31=false->∀ p∈g.prods,Cls1 g.toks.length Yt p)/\k=if b31=true then miss g.nts.length (2*g.toks.length+2) Yt+1 else 0,⟨_,⟨rfl,rfl,rfl,rfl,rfl,rfl,rfl,rfl,rfl,rfl,rfl,rfl,rfl,rfl,rfl,rfl,rfl,rfl,rfl,rfl,rfl,rfl,rfl,rfl,rfl,rfl,rfl⟩,Y,w,h0,fun q=>(by cases q),rfl⟩,?_⟩
 rintro k a4 n5 n6 a7 n8 n9 a10 n11 n12 a13 n14 n15 a16 n17 n18 a19 n20 n21 a22 n23 n24 a25 n26 n27 a28 n29 n30 b31 H32 ⟨⟨rfl,rfl,rfl,rfl,rfl,rfl,rfl,rfl,rfl,rfl,rfl,rfl,rfl,rfl,rfl,rfl,rfl,rfl,rfl,rfl,rfl,rfl,rfl,rfl,rfl,rfl,rfl⟩,Yt,w,h0,hc,rfl⟩
 refine ⟨fun z=>?_,fun z=>?_⟩
 .subst z
  refine l12r ok hg hm w fun H' Y' b' w' h'=>?_
  have mono:flY g.toks.length Y' 0 g.toks.length=true:=by
   rw [flY_at (by omega) (by omega)] at h0 ⊢
   exact w'.t.le _ _ h0
  refine ⟨_,?_,⟨rfl,rfl,rfl,rfl,rfl,rfl,rfl,rfl,rfl,rfl,rfl,rfl,rfl,rfl,rfl,rfl,rfl,rfl,rfl,rfl,rfl,rfl,rfl,rfl,rfl,rfl,rfl⟩,Y',⟨w'.s,w'.i,w'.d,Stp.refl Y'⟩,mono,fun q=>?_,rfl⟩
  .cases b'
   .rw [if_neg (by simp),if_pos rfl]; omega
   .rw [if_pos rfl,if_pos rfl]; have:=w'.t.miss w'.i; omega
  .rw [w'.t.no q]; exact h' q
 .subst z
  obtain ⟨h1,h2,h3⟩:=is3_of w.d h0 (hc rfl)
  exact hq H32 Yt w.s h1 h2 h3
end
end
end Va
end Go.Proofs.Ytibkijpnkmccpaa
namespace Go.Ew
open Go.Ev Go.Deep
theorem RowsB.at_ {H:KH} {a:OA} {N M i:Nat} {X:Int->Int->Bool} (h:RowsB H a N M X) (hi:i<N):∃ b o a' c',a=some ⟨b,o,none⟩/\ld H ⟨b,o+i*1,none⟩ [.slice a' M c']/\kold H 1 a' M=some (famC (bit1 (X (i:Int))) M):=by
 obtain ⟨l,rfl,h2,h3⟩:=h.ex
 obtain ⟨b,o,ha,r⟩:=it_ld (k:=1) (f:=fun x:Hd=>[.slice x.a M x.c]) (fun _=>rfl) h2 hi
 exact ⟨b,o,l[i].a,l[i].c,ha,r,h3 i hi⟩
def sumsT:List Tk:=[⟨⟨#[110,117,109]⟩,⟨#[91,48,45,57,93,43]⟩,false⟩,⟨⟨#[105,100]⟩,⟨#[91,97,45,122,93,43]⟩,false⟩,⟨⟨#[112,108,117,115]⟩,⟨#[92,43]⟩,false⟩,⟨⟨#[115,116,97,114]⟩,⟨#[92,42]⟩,false⟩,⟨⟨#[111,112,101,110]⟩,⟨#[92,40]⟩,false⟩,⟨⟨#[99,108,111,115,101]⟩,⟨#[92,41]⟩,false⟩,⟨⟨#[98,108,97,110,107]⟩,⟨#[32,43]⟩,true⟩,⟨⟨#[108,101,116]⟩,⟨#[61]⟩,false⟩]
def sumsC:List Value:=(tkC sumsT).take 19++[.string ⟨#[91,32,92,45,93,43]⟩]++(tkC sumsT).drop 20
def sumsN (n5 n6 n7 n8 n9 n10 n11:Nat):List Nt:=[⟨⟨#[115]⟩,none,0,[],some ⟨n5,0,none⟩,2,[⟨#[118,97,108]⟩,⟨#[98,97,100]⟩]⟩,⟨⟨#[101]⟩,some ⟨n6,0,none⟩,1,[⟨#[101,110,118]⟩],some ⟨n7,0,none⟩,1,[⟨#[118,97,108]⟩]⟩,⟨⟨#[109,111,114,101]⟩,some ⟨n8,0,none⟩,2,[⟨#[101,110,118]⟩,⟨#[108,101,102,116]⟩],some ⟨n9,0,none⟩,1,[⟨#[118,97,108]⟩]⟩,⟨⟨#[102]⟩,some ⟨n10,0,none⟩,1,[⟨#[101,110,118]⟩],some ⟨n11,0,none⟩,2,[⟨#[118,97,108]⟩,⟨#[115,105,122,101]⟩]⟩]
def sumsP (n13 n86 n87 n144 n149 n221 n236 n241 n256 n261 n278 n287 n330:Nat):List Pr:=[⟨0,some ⟨n13,0,none⟩,1,[⟨false,1⟩],some ⟨n86,0,none⟩,3,3⟩,⟨1,some ⟨n87,0,none⟩,2,[⟨false,3⟩,⟨false,2⟩],some ⟨n144,0,none⟩,4,4⟩,⟨2,some ⟨n149,0,none⟩,3,[⟨true,2⟩,⟨false,3⟩,⟨false,2⟩],some ⟨n221,0,none⟩,4,4⟩,⟨2,none,0,[],some ⟨n236,0,none⟩,1,1⟩,⟨3,some ⟨n241,0,none⟩,1,[⟨true,0⟩],some ⟨n256,0,none⟩,2,2⟩,⟨3,some ⟨n261,0,none⟩,1,[⟨true,1⟩],some ⟨n278,0,none⟩,2,2⟩,⟨3,some ⟨n287,0,none⟩,3,[⟨true,4⟩,⟨false,1⟩,⟨true,5⟩],some ⟨n330,0,none⟩,3,3⟩]
def sumsG (n1 n5 n6 n7 n8 n9 n10 n11 n12 n331:Nat) (P:List Pr):Gm:=⟨some ⟨n1,0,none⟩,8,sumsT,some ⟨n12,0,none⟩,4,sumsN n5 n6 n7 n8 n9 n10 n11,some ⟨n331,0,none⟩,7,P⟩
def symB (T:List Tk) (N:Nat) (s:Sy):Bool:=decide (0<=s.pos)&&bif s.tok then (match T[s.pos.toNat]? with
 | some t=>!t.skip
 | none=>false) else decide (s.pos<N)
theorem symB_ok {T:List Tk} {N:Nat} {s:Sy} (h:symB T N s=true):SymOk T N s:=by
 simp only [symB,Bool.and_eq_true,decide_eq_true_eq] at h
 obtain ⟨h1,h2⟩:=h
 refine ⟨h1,fun ht=>?_,fun ht=>?_⟩
 .rw [ht,cond_true] at h2
  split at h2
  .rename_i t e
   obtain ⟨hl,e⟩:=List.getElem?_eq_some_iff.1 e
   exact ⟨hl,by rw [e]; simpa using h2⟩
  .cases h2
 .rw [ht,cond_false] at h2
  exact of_decide_eq_true h2
def prodB (T:List Tk) (N:Nat) (p:Pr):Bool:=decide (0<=p.left)&&decide (p.left<N)&&decide (p.right.length<=5)&&p.right.all (symB T N)
theorem prodB_ok {T:List Tk} {N:Nat} {p:Pr} (h:prodB T N p=true):ProdOk T N p:=by
 simp only [prodB,Bool.and_eq_true,decide_eq_true_eq] at h
 exact ⟨⟨h.1.1.1,h.1.1.2⟩,h.1.2,fun i hi=>symB_ok (List.all_eq_true.1 h.2 _ (List.getElem_mem hi))⟩
theorem sums_ok {P:List Pr} (h:P.all (prodB sumsT 4)=true):∀ i (h:i<P.length),ProdOk sumsT 4 P[i]:=fun i hi=>prodB_ok (List.all_eq_true.1 h _ (List.getElem_mem hi))
theorem sums_names:namesB (sumsT.map Tk.name++[⟨#[115]⟩,⟨#[101]⟩,⟨#[109,111,114,101]⟩,⟨#[102]⟩])=true:=by kernel_rfl
theorem sums_at0:namesB [⟨#[118,97,108]⟩,⟨#[98,97,100]⟩]=true:=by kernel_rfl
theorem sums_at1:namesB [⟨#[101,110,118]⟩,⟨#[118,97,108]⟩]=true:=by kernel_rfl
theorem sums_at2:namesB [⟨#[101,110,118]⟩,⟨#[108,101,102,116]⟩,⟨#[118,97,108]⟩]=true:=by kernel_rfl
theorem sums_at3:namesB [⟨#[101,110,118]⟩,⟨#[118,97,108]⟩,⟨#[115,105,122,101]⟩]=true:=by kernel_rfl
theorem sums_may {n5 n6 n7 n8 n9 n10 n11:Nat} (ta na pa:OA) (pc:Nat) {P:List Pr} (h1:1<=P.length/\P.length<=16) (h2:P.all (prodB sumsT 4)=true):MayG ⟨ta,8,sumsT,na,4,sumsN n5 n6 n7 n8 n9 n10 n11,pa,pc,P⟩ :=
 ⟨⟨by show 1<=8; decide,by show 8<=8; decide⟩,⟨by show 1<=4; decide,by show 4<=8; decide⟩,h1,namesB_ok sums_names,fun i hi=>by
  match i,hi with
  | 0,_=>exact ⟨by show 2<=4; decide,namesB_ok sums_at0⟩
  | 1,_=>exact ⟨by show 2<=4; decide,namesB_ok sums_at1⟩
  | 2,_=>exact ⟨by show 3<=4; decide,namesB_ok sums_at2⟩
  | 3,_=>exact ⟨by show 3<=4; decide,namesB_ok sums_at3⟩,sums_ok h2⟩
theorem putRow {H:KH} {n o sz k:Nat} {cs xs zs:List Value} {y v:Value} (h:H n=some (mkEnt cs 0)) (hcs:cs=xs++[y]++zs) (ho:xs.length=o) (hl:cs.length=k*sz):∃ e,(H.put ⟨n,o,none⟩ [v]) n=some e/\rd e.cells 0 (k*sz)=some (xs++[v]++zs):=by
 refine ⟨_,put_at h,?_⟩
 have h1:rd (mkEnt cs 0).cells 0 (k*sz)=some (xs++[y]++zs):=by
  rw [<- hl,<- hcs]; exact mk_rd
 exact rdWr h1 ho rfl
end Go.Ew
namespace Go.Proofs.Ytibkijpnkmccpaa
open Go.Ev Go.Ew
namespace Va
section
variable (ok : EnvOk (env Try.prog))
include ok
set_option maxRecDepth 100000 in
theorem c10 {x:Int} {H:KH} {Q:PQ} (hq:∀ g H',Le H H'->GI H' g->MayG g->Q (gv g) H'):Does (env Try.prog) 10 [.int .i64 x] H Q:=by
 refine fn10 ok ?_
 unfold vc10
 intro n1 h1
 refine ⟨⟨by decide,by decide⟩,n1,0,rfl,rfl,⟨[.string ⟨#[91,32,92,45,93,43]⟩],rfl,?_⟩,⟨_,new_self,rfl⟩,?_⟩
 .have w:ld (KH.new H n1 (mkEnt sumsC 0)) ⟨n1,0,none⟩ sumsC:=⟨rfl,_,new_self,mk_rd⟩
  exact ldSub (m:=1) w 19 (by decide)
 generalize hK1:KH.put _ _ _=K1
 obtain ⟨B1,l1,f1,b⟩:∃ B1,Le H B1/\kold B1 3 (some ⟨n1,0,none⟩) 8=some (tkC sumsT)/\Le B1 K1:=by
  refine ⟨K1,hK1 ▸ le_put (Le.new h1) h1,?_,Le.refl _⟩
  obtain ⟨e,e1,e2⟩:=putRow (H:=KH.new H n1 (mkEnt sumsC 0)) (cs:=sumsC) (n:=n1) (o:=19) (sz:=3) (k:=8) (xs:=(tkC sumsT).take 19) (zs:=(tkC sumsT).drop 20) (y:=.string ⟨#[91,32,92,45,93,43]⟩) (v:=.string ⟨#[32,43]⟩) new_self rfl rfl rfl
  exact kold_some.2 ⟨e,hK1 ▸ e1,e2⟩
 intro n5 h5
 generalize hK5:KH.new _ n5 _=K5
 have j5:Le K1 K5:=hK5 ▸ Le.new h5
 obtain ⟨B5,l5,f5,b⟩:∃ B5,Le B1 B5/\kold B5 1 (some ⟨n5,0,none⟩) 2=some (sC [⟨#[118,97,108]⟩,⟨#[98,97,100]⟩])/\Le B5 K5:=⟨_,Le.new (b.none h5),lit_kold new_self rfl,hK5 ▸ Le.new2 b⟩
 intro n6 h6
 generalize hK6:KH.new _ n6 _=K6
 have j6:Le K5 K6:=hK6 ▸ Le.new h6
 obtain ⟨B6,l6,f6,b⟩:∃ B6,Le B5 B6/\kold B6 1 (some ⟨n6,0,none⟩) 1=some (sC [⟨#[101,110,118]⟩])/\Le B6 K6:=⟨_,Le.new (b.none h6),lit_kold new_self rfl,hK6 ▸ Le.new2 b⟩
 intro n7 h7
 generalize hK7:KH.new _ n7 _=K7
 have j7:Le K6 K7:=hK7 ▸ Le.new h7
 obtain ⟨B7,l7,f7,b⟩:∃ B7,Le B6 B7/\kold B7 1 (some ⟨n7,0,none⟩) 1=some (sC [⟨#[118,97,108]⟩])/\Le B7 K7:=⟨_,Le.new (b.none h7),lit_kold new_self rfl,hK7 ▸ Le.new2 b⟩
 intro n8 h8
 generalize hK8:KH.new _ n8 _=K8
 have j8:Le K7 K8:=hK8 ▸ Le.new h8
 obtain ⟨B8,l8,f8,b⟩:∃ B8,Le B7 B8/\kold B8 1 (some ⟨n8,0,none⟩) 2=some (sC [⟨#[101,110,118]⟩,⟨#[108,101,102,116]⟩])/\Le B8 K8:=⟨_,Le.new (b.none h8),lit_kold new_self rfl,hK8 ▸ Le.new2 b⟩
 intro n9 h9
 generalize hK9:KH.new _ n9 _=K9
 have j9:Le K8 K9:=hK9 ▸ Le.new h9
 obtain ⟨B9,l9,f9,b⟩:∃ B9,Le B8 B9/\kold B9 1 (some ⟨n9,0,none⟩) 1=some (sC [⟨#[118,97,108]⟩])/\Le B9 K9:=⟨_,Le.new (b.none h9),lit_kold new_self rfl,hK9 ▸ Le.new2 b⟩
 intro n10 h10
 generalize hK10:KH.new _ n10 _=K10
 have j10:Le K9 K10:=hK10 ▸ Le.new h10
 obtain ⟨B10,l10,f10,b⟩:∃ B10,Le B9 B10/\kold B10 1 (some ⟨n10,0,none⟩) 1=some (sC [⟨#[101,110,118]⟩])/\Le B10 K10:=⟨_,Le.new (b.none h10),lit_kold new_self rfl,hK10 ▸ Le.new2 b⟩
 intro n11 h11
 generalize hK11:KH.new _ n11 _=K11
 have j11:Le K10 K11:=hK11 ▸ Le.new h11
 obtain ⟨B11,l11,f11,b⟩:∃ B11,Le B10 B11/\kold B11 1 (some ⟨n11,0,none⟩) 2=some (sC [⟨#[118,97,108]⟩,⟨#[115,105,122,101]⟩])/\Le B11 K11:=⟨_,Le.new (b.none h11),lit_kold new_self rfl,hK11 ▸ Le.new2 b⟩
 intro n12 h12
 generalize hK12:KH.new _ n12 _=K12
 have j12:Le K11 K12:=hK12 ▸ Le.new h12
 obtain ⟨B12,l12,f12,b⟩:∃ B12,Le B11 B12/\kold B12 3 (some ⟨n12,0,none⟩) 4=some (ntC (sumsN n5 n6 n7 n8 n9 n10 n11))/\Le B12 K12:=⟨_,Le.new (b.none h12),lit_kold new_self rfl,hK12 ▸ Le.new2 b⟩
 intro n13 h13
 generalize hK13:KH.new _ n13 _=K13
 have j13:Le K12 K13:=hK13 ▸ Le.new h13
 obtain ⟨B13,l13,f13,b⟩:∃ B13,Le B12 B13/\kold B13 2 (some ⟨n13,0,none⟩) 1=some (syC [⟨false,1⟩])/\Le B13 K13:=⟨_,Le.new (b.none h13),lit_kold new_self rfl,hK13 ▸ Le.new2 b⟩
 refine c17 ok ⟨_,_,_,_,_,_,_,_,_,_,_,_,rfl,?_⟩
 refine c17 ok ⟨_,_,_,_,_,_,_,_,_,_,_,_,rfl,?_⟩
 intro n42 h42
 generalize hK42:KH.new _ n42 _=K42
 have j42:Le K13 K42:=hK42 ▸ Le.new h42
 have b:=b.trans j42
 refine c18 ok ⟨_,_,_,_,_,_,_,_,_,_,_,_,rfl,?_⟩
 refine c18 ok ⟨_,_,_,_,_,_,_,_,_,_,_,_,rfl,?_⟩
 refine c17 ok ⟨_,_,_,_,_,_,_,_,_,_,_,_,rfl,?_⟩
 intro n85 h85
 generalize hK85:KH.new _ n85 _=K85
 have j85:Le K42 K85:=hK85 ▸ Le.new h85
 have b:=b.trans j85
 intro n86 h86
 have z86:=b.none h86
 generalize hK86:KH.new _ n86 _=K86
 have j86:Le K85 K86:=hK86 ▸ Le.new h86
 have b:=b.trans j86
 have q86:=(congrFun hK86 n86).symm.trans new_self
 intro n87 h87
 generalize hK87:KH.new _ n87 _=K87
 have j87:Le K86 K87:=hK87 ▸ Le.new h87
 obtain ⟨B87,l87,f87,b,z86⟩:∃ B87,Le B13 B87/\kold B87 2 (some ⟨n87,0,none⟩) 2=some (syC [⟨false,3⟩,⟨false,2⟩])/\Le B87 K87/\B87 n86=none:=⟨_,Le.new (b.none h87),lit_kold new_self rfl,hK87 ▸ Le.new2 b,new_none z86 (ne_of q86 h87)⟩
 have q86:=j87 _ _ q86
 refine c18 ok ⟨_,_,_,_,_,_,_,_,_,_,_,_,rfl,?_⟩
 refine c18 ok ⟨_,_,_,_,_,_,_,_,_,_,_,_,rfl,?_⟩
 refine c18 ok ⟨_,_,_,_,_,_,_,_,_,_,_,_,rfl,?_⟩
 refine c18 ok ⟨_,_,_,_,_,_,_,_,_,_,_,_,rfl,?_⟩
 intro n144 h144
 generalize hK144:KH.new _ n144 _=K144
 have j144:Le K87 K144:=hK144 ▸ Le.new h144
 have b:=b.trans j144
 have q86:=j144 _ _ q86
 refine c19 ok ⟨_,_,rfl,?_⟩
 intro n149 h149
 generalize hK149:KH.new _ n149 _=K149
 have j149:Le K144 K149:=hK149 ▸ Le.new h149
 obtain ⟨B149,l149,f149,b,z86⟩:∃ B149,Le B87 B149/\kold B149 2 (some ⟨n149,0,none⟩) 3=some (syC [⟨true,2⟩,⟨false,3⟩,⟨false,2⟩])/\Le B149 K149/\B149 n86=none:=⟨_,Le.new (b.none h149),lit_kold new_self rfl,hK149 ▸ Le.new2 b,new_none z86 (ne_of q86 h149)⟩
 have q86:=j149 _ _ q86
 refine c18 ok ⟨_,_,_,_,_,_,_,_,_,_,_,_,rfl,?_⟩
 refine c18 ok ⟨_,_,_,_,_,_,_,_,_,_,_,_,rfl,?_⟩
 refine c18 ok ⟨_,_,_,_,_,_,_,_,_,_,_,_,rfl,?_⟩
 refine c18 ok ⟨_,_,_,_,_,_,_,_,_,_,_,_,rfl,?_⟩
 intro n206 h206
 generalize hK206:KH.new _ n206 _=K206
 have j206:Le K149 K206:=hK206 ▸ Le.new h206
 have b:=b.trans j206
 have q86:=j206 _ _ q86
 refine c18 ok ⟨_,_,_,_,_,_,_,_,_,_,_,_,rfl,?_⟩
 intro n221 h221
 have z221:=b.none h221
 generalize hK221:KH.new _ n221 _=K221
 have j221:Le K206 K221:=hK221 ▸ Le.new h221
 have b:=b.trans j221
 have q86:=j221 _ _ q86
 have q221:=(congrFun hK221 n221).symm.trans new_self
 refine c18 ok ⟨_,_,_,_,_,_,_,_,_,_,_,_,rfl,?_⟩
 intro n236 h236
 generalize hK236:KH.new _ n236 _=K236
 have j236:Le K221 K236:=hK236 ▸ Le.new h236
 have b:=b.trans j236
 have q86:=j236 _ _ q86
 have q221:=j236 _ _ q221
 refine c19 ok ⟨_,_,rfl,?_⟩
 intro n241 h241
 generalize hK241:KH.new _ n241 _=K241
 have j241:Le K236 K241:=hK241 ▸ Le.new h241
 obtain ⟨B241,l241,f241,b,z86,z221⟩:∃ B241,Le B149 B241/\kold B241 2 (some ⟨n241,0,none⟩) 1=some (syC [⟨true,0⟩])/\Le B241 K241/\B241 n86=none/\B241 n221=none:=⟨_,Le.new (b.none h241),lit_kold new_self rfl,hK241 ▸ Le.new2 b,new_none z86 (ne_of q86 h241),new_none z221 (ne_of q221 h241)⟩
 have q86:=j241 _ _ q86
 have q221:=j241 _ _ q221
 refine c17 ok ⟨_,_,_,_,_,_,_,_,_,_,_,_,rfl,?_⟩
 intro n256 h256
 generalize hK256:KH.new _ n256 _=K256
 have j256:Le K241 K256:=hK256 ▸ Le.new h256
 have b:=b.trans j256
 have q86:=j256 _ _ q86
 have q221:=j256 _ _ q221
 refine c19 ok ⟨_,_,rfl,?_⟩
 intro n261 h261
 generalize hK261:KH.new _ n261 _=K261
 have j261:Le K256 K261:=hK261 ▸ Le.new h261
 obtain ⟨B261,l261,f261,b,z86,z221⟩:∃ B261,Le B241 B261/\kold B261 2 (some ⟨n261,0,none⟩) 1=some (syC [⟨true,1⟩])/\Le B261 K261/\B261 n86=none/\B261 n221=none:=⟨_,Le.new (b.none h261),lit_kold new_self rfl,hK261 ▸ Le.new2 b,new_none z86 (ne_of q86 h261),new_none z221 (ne_of q221 h261)⟩
 have q86:=j261 _ _ q86
 have q221:=j261 _ _ q221
 refine c18 ok ⟨_,_,_,_,_,_,_,_,_,_,_,_,rfl,?_⟩
 intro n276 h276
 generalize hK276:KH.new _ n276 _=K276
 have j276:Le K261 K276:=hK276 ▸ Le.new h276
 have b:=b.trans j276
 have q86:=j276 _ _ q86
 have q221:=j276 _ _ q221
 intro n277 h277
 generalize hK277:KH.new _ n277 _=K277
 have j277:Le K276 K277:=hK277 ▸ Le.new h277
 have b:=b.trans j277
 have q86:=j277 _ _ q86
 have q221:=j277 _ _ q221
 intro n278 h278
 generalize hK278:KH.new _ n278 _=K278
 have j278:Le K277 K278:=hK278 ▸ Le.new h278
 have b:=b.trans j278
 have q86:=j278 _ _ q86
 have q221:=j278 _ _ q221
 refine c19 ok ⟨_,_,rfl,?_⟩
 refine c19 ok ⟨_,_,rfl,?_⟩
 intro n287 h287
 generalize hK287:KH.new _ n287 _=K287
 have j287:Le K278 K287:=hK287 ▸ Le.new h287
 obtain ⟨B287,l287,f287,b,z86,z221⟩:∃ B287,Le B261 B287/\kold B287 2 (some ⟨n287,0,none⟩) 3=some (syC [⟨true,4⟩,⟨false,1⟩,⟨true,5⟩])/\Le B287 K287/\B287 n86=none/\B287 n221=none:=⟨_,Le.new (b.none h287),lit_kold new_self rfl,hK287 ▸ Le.new2 b,new_none z86 (ne_of q86 h287),new_none z221 (ne_of q221 h287)⟩
 have q86:=j287 _ _ q86
 have q221:=j287 _ _ q221
 refine c18 ok ⟨_,_,_,_,_,_,_,_,_,_,_,_,rfl,?_⟩
 refine c18 ok ⟨_,_,_,_,_,_,_,_,_,_,_,_,rfl,?_⟩
 refine c17 ok ⟨_,_,_,_,_,_,_,_,_,_,_,_,rfl,?_⟩
 intro n330 h330
 generalize hK330:KH.new _ n330 _=K330
 have j330:Le K287 K330:=hK330 ▸ Le.new h330
 have b:=b.trans j330
 have q86:=j330 _ _ q86
 have q221:=j330 _ _ q221
 have g287:=Le.refl B287
 have g261:=l287.trans g287
 have g241:=l261.trans g261
 have g149:=l241.trans g241
 have g87:=l149.trans g149
 have g13:=l87.trans g87
 have g12:=l13.trans g13
 have g11:=l12.trans g12
 have g10:=l11.trans g11
 have g9:=l10.trans g10
 have g8:=l9.trans g9
 have g7:=l8.trans g8
 have g6:=l7.trans g7
 have g5:=l6.trans g6
 have g1:=l5.trans g5
 have g0:=l1.trans g1
 have f5:=g5.kold f5
 have f6:=g6.kold f6
 have f7:=g7.kold f7
 have f8:=g8.kold f8
 have f9:=g9.kold f9
 have f10:=g10.kold f10
 have f11:=g11.kold f11
 have f12:=g12.kold f12
 have f13:=g13.kold f13
 have f87:=g87.kold f87
 have f149:=g149.kold f149
 have f241:=g241.kold f241
 have f261:=g261.kold f261
 have f287:=g287.kold f287
 have f1:=g1.kold f1
 clear l5 g5 l6 g6 l7 g7 l8 g8 l9 g9 l10 g10 l11 g11 l12 g12 l13 g13 l87 g87 l149 g149 l241 g241 l261 g261 l287 g287 l1 g1
 have hni:NtsI B287 (sumsN n5 n6 n7 n8 n9 n10 n11):=fun i hi=>by
  match i,hi with
  | 0,_=>exact ⟨rfl,f5⟩
  | 1,_=>exact ⟨f6,f7⟩
  | 2,_=>exact ⟨f8,f9⟩
  | 3,_=>exact ⟨f10,f11⟩
 have hpi:PrsI B287 (sumsP n13 n86 n87 n144 n149 n221 n236 n241 n256 n261 n278 n287 n330):=fun i hi=>by
  match i,hi with
  | 0,_=>exact ⟨f13,CutI.lit (l:=[⟨false,1⟩]) f13 (by decide)⟩
  | 1,_=>exact ⟨f87,CutI.lit (l:=[⟨false,3⟩,⟨false,2⟩]) f87 (by decide)⟩
  | 2,_=>exact ⟨f149,CutI.lit (l:=[⟨true,2⟩,⟨false,3⟩,⟨false,2⟩]) f149 (by decide)⟩
  | 3,_=>exact ⟨rfl,.nil⟩
  | 4,_=>exact ⟨f241,CutI.lit (l:=[⟨true,0⟩]) f241 (by decide)⟩
  | 5,_=>exact ⟨f261,CutI.lit (l:=[⟨true,1⟩]) f261 (by decide)⟩
  | 6,_=>exact ⟨f287,CutI.lit (l:=[⟨true,4⟩,⟨false,1⟩,⟨true,5⟩]) f287 (by decide)⟩
 intro n331 h331
 have z331:=b.none h331
 generalize hK331:KH.new _ n331 _=K331
 have j331:Le K330 K331:=hK331 ▸ Le.new h331
 have q331:=(congrFun hK331 n331).symm.trans new_self
 have y86:=ne_of q86 h331
 have q86:=j331 _ _ q86
 have y221:=ne_of q221 h331
 have q221:=j331 _ _ q221
 obtain ⟨B331,l331,f331,b331,w86,w221⟩:∃ B331,Le B287 B331/\kold B331 3 (some ⟨n331,0,none⟩) 7=some (prC (sumsP n13 n86 n87 n144 n149 n221 n236 n241 n256 n261 n278 n287 n330))/\Le B331 K331/\B331 n86=none/\B331 n221=none:=⟨_,Le.new z331,lit_kold new_self rfl,hK331 ▸ Le.new2 b,new_none z86 y86,new_none z221 y221⟩
 have gi:GI B331 (sumsG n1 n5 n6 n7 n8 n9 n10 n11 n12 n331 (sumsP n13 n86 n87 n144 n149 n221 n236 n241 n256 n261 n278 n287 n330)):=⟨l331.kold f1,l331.kold f12,f331,hni.up l331,hpi.up l331⟩
 refine ⟨by decide,fun _=>?_,fun _=>⟨fun _=>?_,fun _=>⟨fun _=>?_,fun _=>?_⟩⟩⟩
 .clear f331 gi w86 w221 y86 y221 q86 q221 z86 z221 b331 l331
  refine ⟨trivial,c19 ok ⟨_,_,rfl,(by repeat' (first | exact trivial | exact rfl | apply And.intro)),c19 ok ⟨_,_,rfl,(by repeat' (first | exact trivial | exact rfl | apply And.intro)),?_⟩⟩⟩
  intro n340 h340
  generalize hK340:KH.new _ n340 _=K340
  have j340:Le K331 K340:=hK340 ▸ Le.new h340
  have q340:=(congrFun hK340 n340).symm.trans new_self
  have y340:=ne_of q331 h340
  refine c18 ok ⟨_,_,_,_,_,_,_,_,_,_,_,_,rfl,fun _=>⟨(by repeat' (first | exact trivial | exact rfl | apply And.intro)),?_⟩⟩
  rw [back_hide]
  refine c18 ok ⟨_,_,_,_,_,_,_,_,_,_,_,_,rfl,fun _=>⟨(by repeat' (first | exact trivial | exact rfl | apply And.intro)),?_⟩⟩
  rw [back_hide]
  refine c18 ok ⟨_,_,_,_,_,_,_,_,_,_,_,_,rfl,fun _=>⟨(by repeat' (first | exact trivial | exact rfl | apply And.intro)),?_⟩⟩
  rw [back_hide]
  intro n383 h383
  generalize hK383:KH.new _ n383 _=K383
  have j383:Le K340 K383:=hK383 ▸ Le.new h383
  refine c18 ok ⟨_,_,_,_,_,_,_,_,_,_,_,_,rfl,fun _=>fun _=>⟨(by repeat' (first | exact trivial | exact rfl | apply And.intro)),?_⟩⟩
  rw [back_hide]
  refine c18 ok ⟨_,_,_,_,_,_,_,_,_,_,_,_,rfl,fun _=>fun _=>⟨(by repeat' (first | exact trivial | exact rfl | apply And.intro)),?_⟩⟩
  rw [back_hide]
  refine c18 ok ⟨_,_,_,_,_,_,_,_,_,_,_,_,rfl,fun _=>fun _=>⟨(by repeat' (first | exact trivial | exact rfl | apply And.intro)),?_⟩⟩
  rw [back_hide]
  intro n426 h426
  generalize hK426:KH.new _ n426 _=K426
  have j426:Le K383 K426:=hK426 ▸ Le.new h426
  intro n427 h427
  generalize hK427:KH.new _ n427 _=K427
  have j427:Le K426 K427:=hK427 ▸ Le.new h427
  intro n428 h428 n429 h429
  have jj:=j340.trans (j383.trans (j426.trans j427))
  have bb:=(b.trans j331).trans jj
  refine ⟨_,_,knew_of (ti:=tiP) (lit_kold new_self rfl),?_⟩
  have j428:=Le.new (e:=mkEnt [.int .i64 3,.slice (some ⟨n340,0,none⟩) 4 4,.slice (some ⟨n427,0,none⟩) 4 4] 0) h428
  obtain ⟨a5,c5,H5,e1,e2,e3,e4,e5⟩:=(Own.lit (H0:=B287) (sz:=tiP.size) n331 7 (prC (sumsP n13 n86 n87 n144 n149 n221 n236 n241 n256 n261 n278 n287 n330)) (j428 _ _ (jj _ _ q331)) rfl (by decide) z331).append (ti:=tiP) (m:=1) (nm:=n429) (new:=[.int .i64 3,.slice (some ⟨n340,0,none⟩) 4 4,.slice (some ⟨n427,0,none⟩) 4 4]) (bb.trans j428) h429 rfl (by decide) (by decide) (by decide)
  have q340:=e4 _ _ (j428 _ _ ((j383.trans (j426.trans j427)) _ _ q340)) (fun w=>y340 (Option.some.inj w))
  have f340:kold H5 2 (some ⟨n340,0,none⟩) 4=some (syC [⟨true,7⟩,⟨true,1⟩,⟨false,3⟩,⟨false,3⟩]):=lit_kold q340 rfl
  refine ⟨a5,_,c5,H5,e1,trivial,trivial,hq ⟨some ⟨n1,0,none⟩,8,sumsT,some ⟨n12,0,none⟩,4,sumsN n5 n6 n7 n8 n9 n10 n11,a5,c5,sumsP n13 n86 n87 n144 n149 n221 n236 n241 n256 n261 n278 n287 n330++[⟨3,some ⟨n340,0,none⟩,4,[⟨true,7⟩,⟨true,1⟩,⟨false,3⟩,⟨false,3⟩],some ⟨n427,0,none⟩,4,4⟩]⟩ H5 (g0.trans e3) ⟨e3.kold f1,e3.kold f12,?_,hni.up e3,(hpi.up e3).appK f340 (CutI.lit (l:=[⟨true,7⟩,⟨true,1⟩,⟨false,3⟩,⟨false,3⟩]) f340 (by decide))⟩ (sums_may _ _ _ _ ⟨by show 1<=8; decide,by show 8<=16; decide⟩ rfl)⟩
  have:=Own.cells e2
  unfold prC at this ⊢
  rw [List.flatMap_append]
  exact this
 .have r0:=q221
  have ra:∀ i (hi:i<7),∃ b o,some (⟨n331,0,none⟩:Addr)=some ⟨b,o,none⟩/\ld K331 ⟨b,o+i*3,none⟩ [.int .i64 ((sumsP n13 n86 n87 n144 n149 n221 n236 n241 n256 n261 n278 n287 n330)[i]'hi).left,.slice ((sumsP n13 n86 n87 n144 n149 n221 n236 n241 n256 n261 n278 n287 n330)[i]'hi).ra ((sumsP n13 n86 n87 n144 n149 n221 n236 n241 n256 n261 n278 n287 n330)[i]'hi).right.length ((sumsP n13 n86 n87 n144 n149 n221 n236 n241 n256 n261 n278 n287 n330)[i]'hi).rc,.slice ((sumsP n13 n86 n87 n144 n149 n221 n236 n241 n256 n261 n278 n287 n330)[i]'hi).ua ((sumsP n13 n86 n87 n144 n149 n221 n236 n241 n256 n261 n278 n287 n330)[i]'hi).un ((sumsP n13 n86 n87 n144 n149 n221 n236 n241 n256 n261 n278 n287 n330)[i]'hi).uc]:=fun i hi=>pr_ld (l:=(sumsP n13 n86 n87 n144 n149 n221 n236 n241 n256 n261 n278 n287 n330)) (b331.kold f331) hi
  obtain ⟨b2,o2,e2,r2⟩:=ra 2 (by decide)
  cases e2
  have w2:ld K331 ⟨n331,0+2*3+2,none⟩ [.slice (some ⟨n221,0,none⟩) 4 4]:=ldSub r2 2 1 (by simp)
  have w3:=(⟨rfl,_,q221,mk_rd⟩:ld K331 ⟨n221,0,none⟩ _)
  refine ⟨⟨by decide,by decide⟩,n331,0,rfl,rfl,_,_,_,w2,⟨by decide,by decide⟩,n221,0,rfl,rfl,rfl,⟨[.int .i64 4],rfl,ldSub (m:=1) w3 22 (by simp)⟩,⟨_,q221,rfl⟩,hq (sumsG n1 n5 n6 n7 n8 n9 n10 n11 n12 n331 (sumsP n13 n86 n87 n144 n149 n221 n236 n241 n256 n261 n278 n287 n330)) _ ((g0.trans l331).trans (le_put b331 w221)) (gi.up (le_put b331 w221)) (sums_may _ _ _ _ ⟨by show 1<=7; decide,by show 7<=16; decide⟩ rfl)⟩
 .have ra:∀ i (hi:i<7),∃ b o,some (⟨n331,0,none⟩:Addr)=some ⟨b,o,none⟩/\ld K331 ⟨b,o+i*3,none⟩ [.int .i64 ((sumsP n13 n86 n87 n144 n149 n221 n236 n241 n256 n261 n278 n287 n330)[i]'hi).left,.slice ((sumsP n13 n86 n87 n144 n149 n221 n236 n241 n256 n261 n278 n287 n330)[i]'hi).ra ((sumsP n13 n86 n87 n144 n149 n221 n236 n241 n256 n261 n278 n287 n330)[i]'hi).right.length ((sumsP n13 n86 n87 n144 n149 n221 n236 n241 n256 n261 n278 n287 n330)[i]'hi).rc,.slice ((sumsP n13 n86 n87 n144 n149 n221 n236 n241 n256 n261 n278 n287 n330)[i]'hi).ua ((sumsP n13 n86 n87 n144 n149 n221 n236 n241 n256 n261 n278 n287 n330)[i]'hi).un ((sumsP n13 n86 n87 n144 n149 n221 n236 n241 n256 n261 n278 n287 n330)[i]'hi).uc]:=fun i hi=>pr_ld (l:=(sumsP n13 n86 n87 n144 n149 n221 n236 n241 n256 n261 n278 n287 n330)) (b331.kold f331) hi
  obtain ⟨b2,o2,e2,r2⟩:=ra 0 (by decide)
  cases e2
  have w2:ld K331 ⟨n331,0+0*3+2,none⟩ [.slice (some ⟨n86,0,none⟩) 3 3]:=ldSub r2 2 1 (by simp)
  have w3:=(⟨rfl,_,q86,mk_rd⟩:ld K331 ⟨n86,0,none⟩ _)
  refine ⟨⟨by decide,by decide⟩,n331,0,rfl,rfl,_,_,_,w2,⟨by decide,by decide⟩,n86,0,rfl,rfl,⟨[.int .i64 16,.int .i64 0,.int .i64 0,.string ⟨#[]⟩,.slice none 0 0,.int .i64 0,.int .i64 0,.slice (some ⟨n42,0,none⟩) 3 3],rfl,ldSub (m:=8) w3 2 (by simp)⟩,⟨_,q86,rfl⟩,hq (sumsG n1 n5 n6 n7 n8 n9 n10 n11 n12 n331 (sumsP n13 n86 n87 n144 n149 n221 n236 n241 n256 n261 n278 n287 n330)) _ ((g0.trans l331).trans (le_put b331 w86)) (gi.up (le_put b331 w86)) (sums_may _ _ _ _ ⟨by show 1<=7; decide,by show 7<=16; decide⟩ rfl)⟩
 .exact hq (sumsG n1 n5 n6 n7 n8 n9 n10 n11 n12 n331 (sumsP n13 n86 n87 n144 n149 n221 n236 n241 n256 n261 n278 n287 n330)) _ ((g0.trans l331).trans b331) (gi.up b331) (sums_may _ _ _ _ ⟨by show 1<=7; decide,by show 7<=16; decide⟩ rfl)
end
end Va
end Go.Proofs.Ytibkijpnkmccpaa
namespace Go.Ew
open Go.Ev Go.Deep
section
variable {Z H : KH} {N M nb : Nat} {fb ob : Nat -> Nat} {aF aO : OA} {Y : Int -> Int -> Bool}
end
theorem Rws.grow {Z H:KH} {p n:Nat} {e:Ent} {R:List Rr} (h:Rws Z H p R) (hn:H n=none) (hp:n≠p):Rws (Z.new n e) (H.new n e) p R:=by
 refine (h.step (fun k e' _ q=>Le.new hn k e' q)).base (Le.new2 h.le) (new_none h.zp fun z=>hp z.symm) fun r hr k hk=>?_
 obtain ⟨e',q⟩:=(h.ok r hr).has hk
 exact new_none (h.fr r hr k hk).1 fun z=>by rw [z,hn] at q; cases q
theorem Rws.new {Z H:KH} {p n:Nat} {e:Ent} {R:List Rr} (h:Rws Z H p R) (hn:H n=none):Rws Z (H.new n e) p R:=h.step fun k e' _ q=>Le.new hn k e' q
theorem hide2 {K:KH} {a b:Nat} {e f:Ent} (ha:K a=none) (hb:(K.new a e) b=none):hideK ((K.new a e).new b f) [b,a]=K:=by
 have hba:b≠a:=fun z=>by rw [z] at hb; simp [KH.new] at hb
 funext k
 show (if k=b then none else (if k=a then none else ((K.new a e).new b f) k))=K k
 by_cases h1:k=b
 .rw [if_pos h1,h1]
  simp only [KH.new] at hb
  rw [if_neg hba] at hb
  exact hb.symm
 .rw [if_neg h1]
  by_cases h2:k=a
  .rw [if_pos h2,h2,ha]
  .rw [if_neg h2]
   simp only [KH.new]
   rw [if_neg h1,if_neg h2]
theorem back2 {K H:KH} {a b:Nat} {e f:Ent} (hb:(K.new a e) b=none):backK ((K.new a e).new b f) H [b,a]=(H.new a e).new b f:=by
 have hba:b≠a:=fun z=>by rw [z] at hb; simp [KH.new] at hb
 funext k
 show (if k=b then ((K.new a e).new b f) b else (if k=a then ((K.new a e).new b f) a else H k))=((H.new a e).new b f) k
 simp only [KH.new]
 by_cases h1:k=b
 .rw [if_pos h1,if_pos h1]; exact if_pos trivial
 .rw [if_neg h1,if_neg h1]
  by_cases h2:k=a
  .rw [if_pos h2,if_pos h2,if_neg fun z=>hba z.symm]; exact if_pos trivial
  .rw [if_neg h2,if_neg h2]
def updN (f:Nat->Nat) (m n:Nat):Nat->Nat:=fun j=>if j=m then n else f j
theorem updN_at (f:Nat->Nat) (m n:Nat):updN f m n m=n:=if_pos rfl
theorem updN_ne {f:Nat->Nat} {m n j:Nat} (h:j≠m):updN f m n j=f j:=if_neg h
theorem hdr_next (M:Nat) (f:Nat->Nat) (m n:Nat):famC (hdrC M f) m++[.slice (some ⟨n,0,none⟩) M M]=famC (hdrC M (updN f m n)) (m+1):=by
 have e:famC (hdrC M f) m=famC (hdrC M (updN f m n)) m:=fam_congr fun i hi=>by
  show [Value.slice (some ⟨f (i:Int).toNat,0,none⟩) M M]=[Value.slice (some ⟨updN f m n (i:Int).toNat,0,none⟩) M M]
  rw [updN_ne (by omega)]
 rw [e]
 unfold famC
 rw [List.range_succ,List.flatMap_append]
 congr 1
 show _=[Value.slice (some ⟨updN f m n (m:Int).toNat,0,none⟩) M M]++[]
 rw [show (m:Int).toNat=m by omega,updN_at]
 rfl
structure MadeB (Z0 Z:KH) (M m:Nat) (fb ob:Nat->Nat):Prop where
 le:Le Z0 Z
 f:∀ i,i<m->Z (fb i)=some (mkEnt (famC (bit1 fun _=>false) M) 0)/\Z0 (fb i)=none
 o:∀ i,i<m->Z (ob i)=some (mkEnt (famC (bit1 fun _=>false) (M+1)) 0)/\Z0 (ob i)=none
 ff:∀ i j,i<m->j<m->fb i=fb j->i=j
 oo:∀ i j,i<m->j<m->ob i=ob j->i=j
 fo:∀ i j,i<m->j<m->fb i≠ob j
theorem MadeB.next {Z0 Z:KH} {M m n1 n3:Nat} {fb ob:Nat->Nat} (h:MadeB Z0 Z M m fb ob) (h1:Z n1=none) (h3:(Z.new n1 (mkEnt (famC (bit1 fun _=>false) M) 0)) n3=none) :
 MadeB Z0 ((Z.new n1 (mkEnt (famC (bit1 fun _=>false) M) 0)).new n3 (mkEnt (famC (bit1 fun _=>false) (M+1)) 0)) M (m+1) (updN fb m n1) (updN ob m n3):=by
 have l1:=Le.new (e:=mkEnt (famC (bit1 fun _=>false) M) 0) h1
 have l3:=Le.new (e:=mkEnt (famC (bit1 fun _=>false) (M+1)) 0) h3
 have s1:(Z.new n1 (mkEnt (famC (bit1 fun _=>false) M) 0)) n1=some (mkEnt (famC (bit1 fun _=>false) M) 0):=if_pos rfl
 have s3:((Z.new n1 (mkEnt (famC (bit1 fun _=>false) M) 0)).new n3 (mkEnt (famC (bit1 fun _=>false) (M+1)) 0)) n3=some (mkEnt (famC (bit1 fun _=>false) (M+1)) 0):=if_pos rfl
 have h3':Z n3=none:=l1.none h3
 have hne:n1≠n3:=fun z=>by rw [<- z,s1] at h3; cases h3
 have fne:∀ i,i<m->fb i≠n1/\fb i≠n3:=fun i hi=>⟨fun z=>(by have:=(h.f i hi).1; rw [z,h1] at this; cases this),fun z=>(by have:=(h.f i hi).1; rw [z,h3'] at this; cases this)⟩
 have one:∀ i,i<m->ob i≠n1/\ob i≠n3:=fun i hi=>⟨fun z=>(by have:=(h.o i hi).1; rw [z,h1] at this; cases this),fun z=>(by have:=(h.o i hi).1; rw [z,h3'] at this; cases this)⟩
 have lt:∀ {i},i<m+1->i≠m->i<m:=fun a b=>by omega
 refine ⟨h.le.trans (l1.trans l3),fun i hi=>?_,fun i hi=>?_,fun i j hi hj e=>?_,fun i j hi hj e=>?_,fun i j hi hj e=>?_⟩
 .by_cases z:i=m
  .rw [z,updN_at]; exact ⟨l3 _ _ s1,h.le.none h1⟩
  .rw [updN_ne z]; exact ⟨l3 _ _ (l1 _ _ (h.f i (lt hi z)).1),(h.f i (lt hi z)).2⟩
 .by_cases z:i=m
  .rw [z,updN_at]; exact ⟨s3,h.le.none h3'⟩
  .rw [updN_ne z]; exact ⟨l3 _ _ (l1 _ _ (h.o i (lt hi z)).1),(h.o i (lt hi z)).2⟩
 .by_cases z:i=m<;>by_cases w:j=m
  .omega
  .rw [z,updN_at,updN_ne w] at e; exact absurd e.symm (fne j (lt hj w)).1
  .rw [w,updN_at,updN_ne z] at e; exact absurd e (fne i (lt hi z)).1
  .rw [updN_ne z,updN_ne w] at e; exact h.ff i j (lt hi z) (lt hj w) e
 .by_cases z:i=m<;>by_cases w:j=m
  .omega
  .rw [z,updN_at,updN_ne w] at e; exact absurd e.symm (one j (lt hj w)).2
  .rw [w,updN_at,updN_ne z] at e; exact absurd e (one i (lt hi z)).2
  .rw [updN_ne z,updN_ne w] at e; exact h.oo i j (lt hi z) (lt hj w) e
 .by_cases z:i=m<;>by_cases w:j=m
  .rw [z,w,updN_at,updN_at] at e; exact hne e
  .rw [z,updN_at,updN_ne w] at e; exact (one j (lt hj w)).1 e.symm
  .rw [w,updN_at,updN_ne z] at e; exact (fne i (lt hi z)).2 e
  .rw [updN_ne z,updN_ne w] at e; exact h.fo i j (lt hi z) (lt hj w) e
theorem boxes {Z0 Z H:KH} {N M nb:Nat} {fb ob:Nat->Nat} (h:MadeB Z0 Z M N fb ob) (hl:Le Z H) (h0:Z0 nb=none) (h1:Z nb=none) (h2:H nb=some (mkEnt (famC (bit1 fun _=>false) N) 0)):Bxs Z0 H (ixD N) (ixN nb fb ob) (ixC N M fun _ _=>false):=by
 refine ⟨h.le.trans hl,fun i hi=>?_,fun i hi=>?_,fun i j hi hj e=>?_⟩
 .cases i with
  | n=>exact h0
  | f i=>exact (h.f i hi).2
  | o i=>exact (h.o i hi).2
 .cases i with
  | n=>exact ⟨_,h2,rfl,mk_rd⟩
  | f i=>exact ⟨_,hl _ _ (h.f i hi).1,rfl,mk_rd⟩
  | o i=>exact ⟨_,hl _ _ (h.o i hi).1,rfl,mk_rd⟩
 .have nf:∀ i,i<N->fb i≠nb:=fun i hi z=>by have:=(h.f i hi).1; rw [z,h1] at this; cases this
  have no:∀ i,i<N->ob i≠nb:=fun i hi z=>by have:=(h.o i hi).1; rw [z,h1] at this; cases this
  cases i with
  | n =>
    cases j with
    | n=>rfl
    | f j=>exact absurd (Eq.symm e) (nf j hj)
    | o j=>exact absurd (Eq.symm e) (no j hj)
  | f i =>
    cases j with
    | n=>exact absurd e (nf i hi)
    | f j=>rw [h.ff i j hi hj e]
    | o j=>exact absurd e (h.fo i j hi hj)
  | o i =>
    cases j with
    | n=>exact absurd e (no i hi)
    | f j=>exact absurd (Eq.symm e) (h.fo j i hj hi)
    | o j=>rw [h.oo i j hi hj e]
theorem snd_none (G:List Pr) (M:Nat):Snd3 G M fun _ _=>false:=by
 refine ⟨fun x q=>by simp [nlY] at q,fun x t q=>by simp [fsY] at q,fun x t q=>by simp [flY] at q⟩
end Go.Ew
namespace Go.Proofs.Ytibkijpnkmccpaa
open Go.Ev Go.Ew
namespace Va
section
variable (ok : EnvOk (env Try.prog))
include ok
theorem c13 {g:Gm} {H:KH} {Q:PQ} (hg:GI H g) (hm:MayG g)
 (hq:∀ Z H' nb fb ob aF cF aO cO Y,Le H H'->RefS Z H' g.nts.length g.toks.length nb fb ob aF aO Y->IsN g.prods (nlY Y)->IsF g.prods (fsY g.toks.length Y)->IsL g.prods g.toks.length (flY g.toks.length Y)->Q (.agg #[.slice (some ⟨nb,0,none⟩) g.nts.length g.nts.length,.slice aF g.nts.length cF,.slice aO g.nts.length cO]) H') :
 Does (env Try.prog) 13 [gv g] H Q:=by
 have hT:=hm.t
 have hN:=hm.n
 refine fn13 ok ⟨⟨by omega,by omega,by omega⟩,fun nb h0=>?_⟩
 have eN:Int.toNat ((g.nts.length:Nat):Int)=g.nts.length:=by omega
 have eM:Int.toNat ((g.toks.length:Nat):Int)=g.toks.length:=by omega
 have eW:IntKind.wrap .i64 (((g.toks.length:Nat):Int)+1)=((g.toks.length+1:Nat):Int):=by rw [wrap64 (by omega) (by omega)]; omega
 have eM1:Int.toNat ((g.toks.length+1:Nat):Int)=g.toks.length+1:=by omega
 have rep:∀ n,lrep [.bool false] n=famC (bit1 fun _=>false) n:=fun n=>fam_rep (h:=bit1 fun _=>false) fun _ _=>rfl
 unfold vc13_L10
 rw [eN,rep]
 have w0:Rws H (H.new nb (mkEnt (famC (bit1 fun _=>false) g.nts.length) 0)) nb [⟨1,none,0,0,famC (hdrC g.toks.length id) 0⟩,⟨1,none,0,0,famC (hdrC (g.toks.length+1) id) 0⟩]:=(Rws.nil (Le.new h0) h0).none_.none_
 have m0:MadeB H H g.toks.length 0 id id:=⟨Le.refl H,fun i hi=>absurd hi (by omega),fun i hi=>absurd hi (by omega),fun i j hi=>absurd hi (by omega),fun i j hi=>absurd hi (by omega),fun i j hi=>absurd hi (by omega)⟩
 refine ⟨fun k a4 n5 n6 a7 n8 n9 a10 n11 n12 a13 n14 n15 a16 n17 n18 a19 n20 n21 a22 n23 n24 a25 n26 n27 a28 n29 n30 x31 H32=>(g.ta=a4/\g.toks.length=n5/\g.tc=n6/\g.na=a7/\g.nts.length=n8/\g.nc=n9/\g.pa=a10/\g.prods.length=n11/\g.pc=n12/\some ⟨nb,0,none⟩=a22/\g.nts.length=n23/\g.nts.length=n24)/\∃ (t:Nat) (Z:KH) (fb ob:Nat->Nat),x31=t/\n26=t/\n29=t/\t<=g.nts.length/\k=g.nts.length-t/\MadeB H Z g.toks.length t fb ob/\Rws Z H32 nb [⟨1,a25,t,n27,famC (hdrC g.toks.length fb) t⟩,⟨1,a28,t,n30,famC (hdrC (g.toks.length+1) ob) t⟩]/\H32 nb=some (mkEnt (famC (bit1 fun _=>false) g.nts.length) 0),⟨g.nts.length,⟨rfl,rfl,rfl,rfl,rfl,rfl,rfl,rfl,rfl,rfl,rfl,rfl⟩,0,H,id,id,rfl,rfl,rfl,by omega,rfl,m0,w0,if_pos rfl⟩,?_⟩
 rintro k a4 n5 n6 a7 n8 n9 a10 n11 n12 a13 n14 n15 a16 n17 n18 a19 n20 n21 a22 n23 n24 a25 n26 n27 a28 n29 n30 x31 H32 ⟨⟨rfl,rfl,rfl,rfl,rfl,rfl,rfl,rfl,rfl,rfl,rfl,rfl⟩,t,Z,fb,ob,rfl,rfl,rfl,ht,rfl,mb,w,hnb⟩
 refine ⟨fun z=>?_,fun z=>?_⟩
 .have z:n29<g.nts.length:=by have:=of_decide_eq_true z; omega
  have ht1:IntKind.wrap .i64 (((n29:Nat):Int)+1)=((n29+1:Nat):Int):=by rw [wrap64 (by omega) (by omega)]; omega
  rw [eM,eW,eM1,rep,rep,ht1]
  refine ⟨trivial,⟨by omega,by omega,by omega⟩,fun n1 h1 n2 h2=>⟨⟨by omega,by omega,by omega⟩,fun n3 h3 n4 h4 n5 h5=>?_⟩⟩
  rw [hide2 h3 h4]
  have nen:∀ n,H32 n=none->n≠nb:=fun n hn e=>by rw [e,hnb] at hn; cases hn
  have l1:=Le.new (e:=mkEnt (famC (bit1 fun _=>false) g.toks.length) 0) h1
  have l2:=Le.new (e:=mkEnt [.slice (some ⟨n1,0,none⟩) g.toks.length g.toks.length] 0) h2
  have l3:=Le.new (e:=mkEnt (famC (bit1 fun _=>false) (g.toks.length+1)) 0) h3
  have l4:=Le.new (e:=mkEnt [.slice (some ⟨n3,0,none⟩) (g.toks.length+1) (g.toks.length+1)] 0) h4
  have h5':=(l3.trans l4).none h5
  have wA:=(w.grow (e:=mkEnt (famC (bit1 fun _=>false) g.toks.length) 0) h1 (nen n1 h1)).new (e:=mkEnt [.slice (some ⟨n1,0,none⟩) g.toks.length g.toks.length] 0) h2
  have hA:=l2 _ _ (l1 _ _ hnb)
  obtain ⟨a8,c9,H11,f1,f2,f3,f4⟩:=wA.app (ti:=tiH) (nm:=n5) (m:=1) (new:=[.slice (some ⟨n1,0,none⟩) g.toks.length g.toks.length]) h5' (nen n5 ((l1.trans l2).none h5')) rfl rfl (by show n29+1<=_; omega) (by decide) (by decide)
  refine ⟨1,[.slice (some ⟨n1,0,none⟩) g.toks.length g.toks.length],knew_of (ti:=tiH) (lit_kold (if_pos rfl) rfl),a8,n29+1,c9,H11,f1,fun b4 b3=>⟨⟨⟨rfl,rfl⟩,rfl,⟨rfl,rfl⟩,rfl,rfl,rfl,trivial⟩,fun n12 h12=>?_⟩⟩
  rw [back2 h4] at h12 ⊢
  have b4':(H11.new n3 (mkEnt (famC (bit1 fun _=>false) (g.toks.length+1)) 0)) n4=none:=new_none b4 fun e=>by
   rw [e] at h4; simp [KH.new] at h4
  have m3:=Le.new (e:=mkEnt (famC (bit1 fun _=>false) (g.toks.length+1)) 0) b3
  have m4:=Le.new (e:=mkEnt [.slice (some ⟨n3,0,none⟩) (g.toks.length+1) (g.toks.length+1)] 0) b4'
  have wB:=(f2.grow (e:=mkEnt (famC (bit1 fun _=>false) (g.toks.length+1)) 0) b3 (nen n3 ((l1.trans l2).none h3))).new (e:=mkEnt [.slice (some ⟨n3,0,none⟩) (g.toks.length+1) (g.toks.length+1)] 0) b4'
  have hB:=m4 _ _ (m3 _ _ (f3 _ hA))
  have n12b:n12≠nb:=fun e=>by rw [e,hB] at h12; cases h12
  obtain ⟨a15,c47,H18,g1,g2,g3,g4⟩:=(wB.perm (List.Perm.swap _ _ _)).app (ti:=tiH) (nm:=n12) (m:=1) (new:=[.slice (some ⟨n3,0,none⟩) (g.toks.length+1) (g.toks.length+1)]) h12 n12b rfl rfl (by show n29+1<=_; omega) (by decide) (by decide)
  refine ⟨1,[.slice (some ⟨n3,0,none⟩) (g.toks.length+1) (g.toks.length+1)],knew_of (ti:=tiH) (lit_kold (if_pos rfl) rfl),a15,n29+1,c47,H18,g1,⟨⟨rfl,rfl⟩,trivial⟩,trivial,trivial,g.nts.length-(n29+1),by omega,⟨rfl,rfl,rfl,rfl,rfl,rfl,rfl,rfl,rfl,rfl,rfl,rfl⟩,n29+1,_,updN fb n29 n1,updN ob n29 n3,rfl,rfl,rfl,by omega,rfl,mb.next (w.le.none h1) (f2.le.none b3),?_,g3 _ hB⟩
  have:=g2.perm (List.Perm.swap _ _ _)
  rw [<- hdr_next,<- hdr_next]
  exact this
 .have z:n29=g.nts.length:=by have:=of_decide_eq_false z; omega
  subst z
  have bx:=boxes mb w.le h0 w.zp hnb
  obtain ⟨Z',lZ,bx',hk⟩:=bx.max
  have hfr:=w.fr
  have nm:∀ k,Z k=none->k≠nb->∀ i,ixD g.nts.length i->ixN nb fb ob i≠k:=fun k hk hn i hi e=>by
   cases i with
   | n=>exact hn (Eq.symm e)
   | f i=>have:=(mb.f i hi).1; rw [show fb i=k from e,hk] at this; cases this
   | o i=>have:=(mb.o i hi).1; rw [show ob i=k from e,hk] at this; cases this
  have kF:kold Z' 1 a25 g.nts.length=some (famC (hdrC g.toks.length fb) g.nts.length):=by
   refine ((w.ok _ (List.mem_cons_self ..)).agree fun k e hb he=>?_).row
   have:=w.fr _ (List.mem_cons_self ..) k hb
   exact hk k e he (nm k this.1 this.2)
  have kO:kold Z' 1 a28 g.nts.length=some (famC (hdrC (g.toks.length+1) ob) g.nts.length):=by
   refine ((w.ok _ (List.mem_cons_of_mem _ (List.mem_cons_self ..))).agree fun k e hb he=>?_).row
   have:=w.fr _ (List.mem_cons_of_mem _ (List.mem_cons_self ..)) k hb
   exact hk k e he (nm k this.1 this.2)
  have s:RefS Z' H32 g.nts.length g.toks.length nb fb ob a25 a28 fun _ _=>false:=⟨bx',kF,kO⟩
  obtain ⟨b1,o1,e1,r1⟩:=s.hdO (i:=0) (by omega)
  have r2:=s.ldO (i:=0) (t:=g.toks.length) (by omega) (by omega)
  have s2:=s.setO (i:=0) (t:=g.toks.length) (by omega) (by omega)
  have hF0:Flw g.prods g.toks.length 0 g.toks.length:=.zero
  have z0:Int.toNat (0:Int)=0:=rfl
  rw [z0]
  refine ⟨trivial,⟨by omega,by omega⟩,b1,o1,e1,_,_,_,r1,⟨by omega,by omega⟩,_,_,rfl,⟨[.bool false],rfl,by rw [eM]; exact r2⟩,Bxs.may s.b (j:=.o 0) (show 0<g.nts.length by omega),trivial,?_⟩
  refine l12s ok (g:=g) (Y:=Up1 (fun _ _=>false) 0 (1+(g.toks.length:Int)+(g.toks.length:Int))) (hg.up lZ) hm rfl ⟨by rw [eM]; exact s2,?_,(snd_none g.prods g.toks.length).setO (by omega) hF0,Stp.refl _⟩ ?_ fun H' Y' s' i1 i2 i3=>hq Z' H' nb fb ob a25 n27 a28 n30 Y' (lZ.trans s'.b.le) s' i1 i2 i3
  .exact up_in (fun i t q=>by cases q) ⟨by omega,by omega⟩ fun t q=>by have:=of_decide_eq_true q; omega
  .rw [flY_at (by omega) (by omega)]; exact up1_at ..
end
end Va
end Go.Proofs.Ytibkijpnkmccpaa
namespace Go.Ew
open Go.Ev Go.Deep
structure Ps (Z H:KH) (p:Nat) (cs:List Value) (R:List Rr):Prop where
 r:Rws Z H p R
 e:∃ e,H p=some e/\wrB e=true/\rd e.cells 0 cs.length=some cs
section
variable {Z H : KH} {p : Nat} {cs : List Value} {R : List Rr}
theorem Ps.up {H':KH} (h:Ps Z H p cs R) (hl:Le H H'):Ps Z H' p cs R:=⟨h.r.step fun k e _ q=>hl k e q,by
 obtain ⟨e,h1,h2⟩:=h.e
 exact ⟨e,hl _ _ h1,h2⟩⟩
theorem Ps.may (h:Ps Z H p cs R):KH.may H p:=by
 obtain ⟨e,h1,h2,_⟩:=h.e
 exact ⟨e,h1,h2⟩
theorem Ps.ld (h:Ps Z H p cs R) {k:Nat} {v:Value} (hk:cs[k]? = some v):ld H ⟨p,k,none⟩ [v]:=by
 obtain ⟨e,h1,_,h3⟩:=h.e
 obtain ⟨hl,hv⟩:=List.getElem?_eq_some_iff.1 hk
 have f:Ew.ld H ⟨p,0,none⟩ cs:=⟨rfl,e,h1,h3⟩
 have:=ldSub (m:=1) f k (by omega)
 rw [Nat.zero_add,List.drop_eq_getElem_cons hl,hv] at this
 exact this
theorem Ps.put (h:Ps Z H p cs R) {k:Nat} {v:Value} (hk:k<cs.length):Ps Z (H.put ⟨p,k,none⟩ [v]) p (cs.set k v) R:=by
 refine ⟨h.r.step fun q e hq w=>put_ne hq w,?_⟩
 obtain ⟨e,h1,h2,h3⟩:=h.e
 refine ⟨_,put_at h1,wrB_keep h2,?_⟩
 have e1:cs=cs.take k++[cs[k]]++cs.drop (k+1):=by rw [List.append_assoc,List.singleton_append,<- List.drop_eq_getElem_cons hk,List.take_append_drop]
 have e2:cs.set k v=cs.take k++[v]++cs.drop (k+1):=by rw [List.set_eq_take_append_cons_drop,if_pos hk]; simp
 rw [List.length_set]
 have hl:(cs.take k).length=k:=by rw [List.length_take]; omega
 generalize hx:cs.take k=x at e1 e2 hl
 generalize hy:cs.drop (k+1)=y at e1 e2
 generalize hz:cs[k]=z at e1
 rw [e2,<- hl]
 have e3:cs.length=(x++[z]++y).length:=by rw [<- e1]
 rw [e3]
 rw [e1] at h3
 exact rdWr h3 rfl rfl
end
structure Rwz (Z H:KH) (R:List Rr):Prop where
 le:Le Z H
 ok:∀ r∈R,Gs H r.sz r.a r.n r.c r.cs
 fr:∀ r∈R,∀ k,blk r.a=some k->Z k=none
 dj:R.Pairwise fun r s=>∀ k,blk r.a=some k->blk s.a≠some k
section
variable {Z H : KH} {R : List Rr}
theorem Rwz.nil (h:Le Z H):Rwz Z H []:=⟨h,fun _ q=>(by cases q),fun _ q=>(by cases q),.nil⟩
theorem Rwz.none_ {sz:Nat} (h:Rwz Z H R):Rwz Z H (⟨sz,none,0,0,[]⟩ :: R):=⟨h.le,fun r q=>by
 rcases List.mem_cons.1 q with rfl | q
 .exact .nil
 .exact h.ok r q,fun r q k z=>by
 rcases List.mem_cons.1 q with rfl | q
 .cases z
 .exact h.fr r q k z,.cons (fun _ _ k z=>by cases z) h.dj⟩
theorem Rwz.perm {R':List Rr} (h:Rwz Z H R) (q:R.Perm R'):Rwz Z H R' :=
 ⟨h.le,fun r z=>h.ok r (q.mem_iff.2 z),fun r z=>h.fr r (q.mem_iff.2 z),q.pairwise h.dj fun h k z w=>h k w z⟩
theorem Rwz.tail {r:Rr} (h:Rwz Z H (r :: R)):Rwz Z H R :=
 ⟨h.le,fun r z=>h.ok r (List.mem_cons_of_mem _ z),fun r z=>h.fr r (List.mem_cons_of_mem _ z),(List.pairwise_cons.1 h.dj).2⟩
theorem Rwz.head {r:Rr} (h:Rwz Z H (r :: R)):Gs H r.sz r.a r.n r.c r.cs:=h.ok r (List.mem_cons_self ..)
theorem Rwz.up {H':KH} (h:Rwz Z H R) (y:Le H H'):Rwz Z H' R :=
 ⟨h.le.trans y,fun r z=>(h.ok r z).agree fun k e w q=>y k e q,h.fr,h.dj⟩
theorem Rwz.new {nm:Nat} {E:Ent} (h:Rwz Z H R) (hn:H nm=none):Rwz Z (H.new nm E) R:=h.up (Le.new hn)
theorem Rwz.app {nm m:Nat} {r:Rr} {ti:TI} {new:List Value} (h:Rwz Z H (r :: R)) (hn:H nm=none) (hsz:r.sz=ti.size) (hm:new.length=m*ti.size) (hs:r.n+m<=1000000) (hb:ti.bytes<=1000000) (hz:1<=ti.size) (hro:ti.size<=1000000:=by decide) :
 ∃ a' c' H',kappend H nm ti r.a r.n r.c m new=some (.slice a' (r.n+m) c',H')/\Rwz Z H' (⟨r.sz,a',r.n+m,c',r.cs++new⟩ :: R):=by
 have g:=h.head
 have hd:=List.pairwise_cons.1 h.dj
 rw [hsz] at g
 obtain ⟨a',c',H',f1,f2,f3,f4⟩:=g.appends (ti:=ti) (nm:=nm) (new:=new) (m:=m) hn hm hs hb hz hro
 have hfr:=h.fr r (List.mem_cons_self ..)
 refine ⟨a',c',H',f1,⟨fun k e q=>f3 k e (h.le k e q) (fun z=>by rw [hfr k z] at q; cases q),fun s q=>?_,fun s q k z=>?_,.cons (fun s q k z w=>?_) hd.2⟩⟩
 .rcases List.mem_cons.1 q with rfl | q
  .rw [hsz]; exact f2
  .exact (h.ok s (List.mem_cons_of_mem _ q)).agree fun k e z w=>f3 k e w fun u=>hd.1 s q k u z
 .rcases List.mem_cons.1 q with rfl | q
  .rcases f4 k z with w | w
   .exact hfr k w
   .rw [w]; exact h.le.none hn
  .exact h.fr s (List.mem_cons_of_mem _ q) k z
 .rcases f4 k z with u | u
  .exact hd.1 s q k u w
  .obtain ⟨e,v⟩:=(h.ok s (List.mem_cons_of_mem _ q)).has w
   rw [u,hn] at v; cases v
theorem Rwz.freeze {r:Rr} (h:Rwz Z H (r :: R)):∃ Z',Le Z Z'/\Rwz Z' H R/\kold Z' r.sz r.a r.n=some r.cs:=by
 have g:=h.head
 have hd:=List.pairwise_cons.1 h.dj
 cases hb:blk r.a with
 | none =>
   exact ⟨Z,Le.refl Z,h.tail,(g.agree (H':=Z) fun k e w _=>by rw [hb] at w; cases w).row⟩
 | some b =>
   obtain ⟨e,he⟩:=g.has hb
   have hf:=h.fr r (List.mem_cons_self ..) b hb
   have hle:Le (Z.new b e) H:=fun k e' q=>by
    simp only [KH.new] at q
    by_cases z:k=b
    .rw [if_pos z] at q; cases q; rw [z]; exact he
    .rw [if_neg z] at q; exact h.le k e' q
   refine ⟨Z.new b e,Le.new hf,⟨hle,h.tail.ok,fun s q k z=>new_none (h.fr s (List.mem_cons_of_mem _ q) k z) fun w=>hd.1 s q b hb (by rw [<- w]; exact z),h.tail.dj⟩,?_⟩
   refine (g.agree (H':=Z.new b e) fun k e' w q=>?_).row
   rw [hb] at w
   cases w
   rw [he] at q
   cases q
   exact if_pos rfl
end
end Go.Ew
