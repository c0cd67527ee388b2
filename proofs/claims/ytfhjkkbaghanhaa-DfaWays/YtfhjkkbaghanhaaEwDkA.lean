import Derived.Test.YtfhjkkbaghanhaaEwDk9
set_option linter.unusedVariables false
set_option linter.unusedSimpArgs false
namespace Go.Ew
open Go.Ev Go.Deep
theorem mxF_le {f:Nat→Int} {m M:Int}:∀ {n:Nat},(∀ b,b < n→f b≤M)→m≤M→mxF f n m≤M
 | 0,_,h=>h
 | n + 1,hf,h=>by
   have h1:=mxF_le (n:=n) (fun b hb=>hf b (by omega)) h
   have h2:=hf n (by omega)
   simp only [mxF]
   omega
theorem mxF_ge {f:Nat→Int} {m:Int}:∀ {n:Nat},m≤mxF f n m
 | 0=>Int.le_refl _
 | n + 1=>by
   have h1:=mxF_ge (f:=f) (m:=m) (n:=n)
   simp only [mxF]
   omega
theorem mxG_rng {N:Nat} {g:Nat→Int} {M:Int} (hM:0≤M) (n:Nat) (h:∀ i b,i < n→b < N→g (i * 257 + b)≤M):0≤mxG N g n∧mxG N g n≤M:=by
 induction n with
 | zero=>exact ⟨Int.le_refl _,hM⟩
 | succ n ih =>
   obtain ⟨h1,h2⟩:=ih fun i b hi hb=>h i b (by omega) hb
   rw [mxG_succ]
   exact ⟨Int.le_trans h1 mxF_ge,mxF_le (fun b hb=>h n b (by omega) hb) h2⟩
end Go.Ew
namespace Go.Proofs.Ytfhjkkbaghanhaa
open Go.Ev Go.Ew
namespace Va
section
variable (ok : EnvOk (env Try.prog))
include ok
theorem c4 {a:OA} {n c:Nat} {H:KH} (h0:U8 H a n):Does (env Try.prog) 4 [.slice a n c] H fun v _=>v = .bool true:=by
 refine fn4 ok (c7 ⟨true,rfl,fun h=>(by cases h),fun _=>⟨fun _=>rfl,fun l0=>?_⟩⟩)
 have l0:n≤60:=by have:=of_decide_eq_false l0; omega
 refine c8 ok h0 (by omega) fun pats a' c' X H2 cs hpl hpar hHX hX hG hP hout=>⟨_,_,_,rfl,?_⟩
 have hPR:PtR H2 pats a':=⟨cs,hG.row,hP.mono hX⟩
 refine c11p ok hPR hpar (by omega) fun a8 c10 H7 hl7 hst=>⟨_,_,_,rfl,?_⟩
 refine c9p ok hpar (by omega) hst (fun ra rc ts g H12 hl12 hI hks hC h300=>⟨_,_,_,rfl,fun q=>absurd (of_decide_eq_true q) (by have:=hks.pos; omega),fun _=>?_⟩) fun H12 hl12 hmany=>⟨_,_,_,rfl,fun _=>?_,fun q=>absurd rfl (of_decide_eq_false q)⟩
 ·have hpos:=hks.pos
  obtain ⟨Z,_,hst⟩:=nfaM_ok hpar
  have hrow:∀ i,i < ts.length→(0≤g (i * 257 + 256)∧g (i * 257 + 256)≤(pats.length:Nat))∧∀ b,b < 256→-1≤g (i * 257 + b)∧g (i * 257 + b) < ts.length:=fun i hi=>by
   have hti:ts[i]? = some ts[i]:=by simp [hi]
   obtain ⟨bs,K,k1,k2,k3⟩:=hks.key (List.getElem_mem hi)
   rw [k1] at hti
   obtain ⟨q1,q2⟩:=hC.good i K bs hi hti k2 k3
   refine ⟨?_,fun b hb=>(q2 b hb).rng⟩
   rw [q1]
   exact endM_rng (by omega) (fun s hs=>(hst s hs).e) K 0 (Int.le_refl _) (by omega)
  have hmx:∀ i,i≤ts.length→0≤mxG 256 g i∧mxG 256 g i≤(ts.length:Int) - 1:=fun i hi=>mxG_rng (by omega) i fun j b hj hb=>by
   have:=((hrow j (by omega)).2 b hb).2
   omega
  obtain ⟨b0,o0,ha0,hld⟩:=hI.ld (j:=0) (by omega)
  have hat:∀ i b,i < ts.length→b < 257→i * 257 + b < ts.length * 257:=fun i b h1 h2=>row_lt h1 h2
  unfold vc4_L3
  refine ⟨fun n3 a4 n5 n6 a7 n8 n9 x10 x11 H13=>n5=pats.length∧a7=ra∧n8=ts.length∧H13=H12∧∃ i:Nat,x11=i∧i≤ts.length∧n3=ts.length - i∧x10=mxG 256 g i,⟨ts.length,rfl,rfl,rfl,rfl,0,rfl,by omega,rfl,rfl⟩,?_⟩
  rintro n3 a4 n5 n6 a7 n8 n9 x10 x11 H13 ⟨rfl,rfl,rfl,rfl,i,rfl,hi,rfl,rfl⟩
  refine ⟨fun hlt=>⟨fun q=>?_,fun _=>?_⟩,fun hge=>?_⟩
  ·exfalso
   have hlt:i < ts.length:=by have:=of_decide_eq_true hlt; omega
   have:=of_decide_eq_true q
   have:=hC.ord i hlt
   omega
  ·have hlt:i < ts.length:=by have:=of_decide_eq_true hlt; omega
   obtain ⟨he,hr⟩:=hrow i hlt
   obtain ⟨m1,m2⟩:=hmx i hi
   have e0:Int.toNat ((i:Nat):Int)=i:=by omega
   unfold vc4_L2
   refine ⟨fun m3 a4 n5 n6 a7' n8 n9 x10 x11 x12 H14=>n5=pats.length∧a7'=a7∧n8=ts.length∧H14=H13∧x11=(i:Nat)∧∃ b:Nat,x12=b∧b≤256∧m3=256 - b∧x10=mxF (fun b=>g (i * 257 + b)) b (mxG 256 g i),⟨256,rfl,rfl,rfl,rfl,rfl,0,rfl,by omega,rfl,rfl⟩,?_⟩
   rintro m3 a4' n5 n6' a7' n8 n9' x10 x11 x12 H14 ⟨rfl,rfl,rfl,rfl,rfl,b,rfl,hb,rfl,rfl⟩
   have mm1:mxG 256 g i≤mxF (fun b=>g (i * 257 + b)) b (mxG 256 g i):=mxF_ge
   have mm2:mxF (fun b=>g (i * 257 + b)) b (mxG 256 g i)≤(ts.length:Int) - 1:=mxF_le (fun b' hb'=>by have:=(hr b' (by omega)).2; omega) m2
   refine ⟨fun hlt2=>?_,fun hge2=>?_⟩
   ·have hlt2:b < 256:=by have:=of_decide_eq_true hlt2; omega
    have e1:Int.toNat ((b:Nat):Int)=b:=by omega
    have wb:IntKind.wrap .i64 (((b:Nat):Int) + 1)=((b + 1:Nat):Int):=by rw [wrap64 (by omega) (by omega)]; omega
    have hu:=hC.ups i b hlt hlt2
    obtain ⟨r1,r2⟩:=hr b hlt2
    rw [e0,e1,wb,wrap64 (x:=mxF (fun b=>g (i * 257 + b)) b (mxG 256 g i) + 1) (by omega) (by omega)]
    refine ⟨⟨by omega,by omega⟩,b0,o0,ha0,rfl,⟨by omega,by omega⟩,rfl,g (i * 257 + b),by simpa [Nat.add_assoc] using hld _ (hat i b hlt (by omega)),fun q=>absurd (of_decide_eq_true q) (by omega),fun _=>⟨fun q=>absurd (of_decide_eq_true q) (by omega),fun _=>⟨fun q=>absurd (of_decide_eq_true q) (by omega),fun _=>?_⟩⟩⟩
    exact ⟨256 - (b + 1),by omega,rfl,rfl,rfl,rfl,rfl,b + 1,rfl,by omega,rfl,rfl⟩
   ·have hge2:b=256:=by have:=of_decide_eq_false hge2; omega
    subst hge2
    rw [e0]
    have hl:ld H14 ⟨b0,o0 + i * 257 + 256,none⟩ [.int .i64 (g (i * 257 + 256))]:=by simpa [Nat.add_assoc] using hld _ (hat i 256 hlt (by omega))
    refine ⟨⟨by omega,by omega⟩,b0,o0,ha0,rfl,_,hl,fun q=>absurd (of_decide_eq_true q) (by omega),fun _=>⟨⟨by omega,by omega⟩,b0,o0,ha0,rfl,_,hl,fun q=>absurd (of_decide_eq_true q) (by omega),fun _=>?_⟩⟩
    exact ⟨ts.length - (i + 1),by omega,rfl,rfl,rfl,rfl,i + 1,by rw [wrap64 (by omega) (by omega)]; omega,by omega,rfl,(mxG_succ 256 g i).symm⟩
  ·have hge:i=ts.length:=by have:=of_decide_eq_false hge; omega
   subst hge
   rw [hC.up,wrap64 (x:=((ts.length:Nat):Int) - 1) (by omega) (by omega)]
   simp
 ·refine c11 ok (hPR.mono (hl7.trans hl12)) (by omega) (few_len hpar) ⟨_,rfl,?_⟩
  rw [decide_eq_false (by omega)]
  rfl
end
end Va
end Go.Proofs.Ytfhjkkbaghanhaa
