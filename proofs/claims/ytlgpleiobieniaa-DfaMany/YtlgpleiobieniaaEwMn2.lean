import Derived.Test.YtlgpleiobieniaaEwMn1
import Derived.Test.YtlgpleiobieniaaEwVc9
set_option linter.unusedVariables false
set_option linter.unusedSimpArgs false
namespace Go.Ew
open Go.Ev Go.Deep
theorem rows_long {S:List St} {ts:List ByteArray} {g:Nat→Int} (hk:KsOk S ts) (hC:RowsC S ts g ts.length) (s:ByteArray):lgR g ts.length s=nfaL S s:=by
 obtain ⟨keys,h1,h2⟩:=hC.rows hk
 rw [lgR_eq,← h1,dLgR_nfa h2]
theorem rows_two {k:Nat} (hk5:k<5) {ts:List ByteArray} {g:Nat→Int} (hk:KsOk (nfaM [itK k]) ts) (hC:RowsC (nfaM [itK k]) ts g ts.length):1<ts.length:=by
 obtain ⟨keys,h1,h2⟩:=hC.rows hk
 obtain ⟨q1,x,q2,q3⟩:=few_two ⟨k,hk5⟩
 have hp:=h2.pos
 have h0:keys[0]? = some (keys[0]'hp):=by simp [hp]
 have hb:=h2.beg _ h0
 have hs:=stepM_same (S:=nfaM [itK k]) (c:=97) hb
 obtain ⟨k',K',_,z2,z3⟩:=h2.nxt 0 _ 97 h0 (by omega) (fun z=>q1 (hs.nil.1 z))
 rw [← h1]
 rcases Nat.lt_or_ge 1 keys.length with y | y
 ·exact y
 ·exfalso
  have hk':k'=0:=by
   rcases Nat.lt_or_ge k' keys.length with u | u
   ·omega
   ·rw [List.getElem?_eq_none u] at z2; cases z2
  subst hk'
  rw [h0] at z2
  cases z2
  exact q3 ((hb x).1 ((z3 x).2 ((hs x).2 q2)))
theorem patS_size:∀ k,(patS k).size=6+k
 | 0=>rfl
 | k+1=>by
   rw [patS,size_app,patS_size k]
   show 6+k+1=_
   omega
end Go.Ew
namespace Go.Proofs.Ytlgpleiobieniaa
open Go.Ev Go.Ew
namespace Va
section
variable (ok : EnvOk (env Try.prog))
include ok
theorem c5 {x:Nat} (hx:x≤255) {H:KH}:Does (env Try.prog) 5 [.int .u8 ((x:Nat):Int)] H fun v _=>v = .bool true:=by
 refine fn5 ok (c12 ⟨true,rfl,fun h=>(by cases h),fun _=>⟨by decide,?_⟩⟩)
 have hm:IntKind.wrap .i64 (Int.tmod ((x:Nat):Int) 12)=((x%12:Nat):Int):=by
  rw [Int.tmod_eq_emod_of_nonneg (by omega),wrap64 (by omega) (by omega)]; omega
 obtain ⟨k,hk⟩:∃ k,k=x%12:=⟨_,rfl⟩
 have hk12:k<12:=by omega
 unfold vc5_L2
 rw [hm,← hk]
 refine ⟨fun n3 x4 s5 x6 H7=>x4=(k:Nat)∧H7=H∧∃ i:Nat,x6=i∧i≤k∧n3=k-i∧s5=patS i,⟨k,rfl,rfl,0,rfl,by omega,rfl,rfl⟩,?_⟩
 rintro n3 x4 s5 x6 H7 ⟨rfl,rfl,i,rfl,hi,rfl,rfl⟩
 refine ⟨fun hlt=>?_,fun hge=>?_⟩
 ·have hlt:i<k:=by have:=of_decide_eq_true hlt; omega
  refine ⟨by rw [patS_size]; show 6+i+1≤_; omega,k-(i+1),by omega,rfl,rfl,i+1,by rw [wrap64 (by omega) (by omega)]; omega,by omega,rfl,rfl⟩
 have hge:i=k:=by have:=of_decide_eq_false hge; omega
 subst hge
 have hpi:=pat_it hk12
 refine c13 ok (fun hn=>by rw [hn] at hpi; cases hpi) fun l hl a c H10 hl10 hi2 hso=>⟨_,_,_,_,rfl,fun q=>(by cases q),fun _ n1 h1=>?_⟩
 rw [hpi] at hl
 cases hl
 have l1:=Le.new (e:=mkEnt [Value.slice a (itK i).length c] 0) h1
 have hPR:PtR (H10.new n1 (mkEnt [Value.slice a (itK i).length c] 0)) [itK i] (some ⟨n1,0,none⟩):=⟨[.slice a (itK i).length c],lit_kold (if_pos rfl) rfl,a,c,[],rfl,⟨hi2.mono l1,hso.mono l1⟩,rfl⟩
 have hpar:∀ l∈[itK i],∃ s,parseR s=some l:=fun l hl=>by
  have:l=itK i:=by simpa using hl
  rw [this]; exact ⟨_,hpi⟩
 refine c11p ok hPR hpar (by simp) fun a8 c10 H3 hl3 hst=>⟨_,_,_,rfl,?_⟩
 refine c9p ok hpar (by simp) hst (fun ra rc ts g H8 hl8 hI hks hC h300=>⟨_,_,_,rfl,fun q=>?_,fun q=>?_⟩) fun H8 hl8 hmany=>⟨_,_,_,rfl,fun q=>rfl,fun q=>?_⟩
 ·exfalso
  have q:=of_decide_eq_true q
  obtain ⟨keys,z1,z2⟩:=hC.rows hks
  have:=many_not (k:=i) (by omega) (by omega) z2
  omega
 ·have q:=of_decide_eq_false q
  refine c16 ok hI (by decide) ⟨_,_,_,rfl,fun _=>rfl,fun q4=>?_⟩
  have q4:=of_decide_eq_false q4
  have hi5:i<5:=by omega
  have e:lgR g ts.length (ByteArray.mk #[97,97,97,97,97,97,97,97,97,97,97,97])=(0,12,true):=by
   rw [rows_long hks hC]; exact few_long ⟨i,hi5⟩
  rw [e]
  have h2:=rows_two hi5 hks hC
  exact ⟨fun _=>⟨fun _=>⟨fun _=>rfl,fun z=>absurd rfl (of_decide_eq_false z)⟩,fun z=>by cases z⟩,fun z=>absurd (of_decide_eq_false z) (by omega)⟩
 ·have q:=of_decide_eq_false q
  refine c16 ok (g:=fun _=>0) (n:=0) (.inl rfl) (by decide) ⟨_,_,_,rfl,fun _=>rfl,fun q4=>?_⟩
  exfalso
  have q4:=of_decide_eq_false q4
  have:=cls_few ⟨i,by omega⟩
  simp only at this
  omega
end
end Va
end Go.Proofs.Ytlgpleiobieniaa
