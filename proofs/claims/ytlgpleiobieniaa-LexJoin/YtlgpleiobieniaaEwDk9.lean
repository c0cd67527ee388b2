import Derived.Test.YtlgpleiobieniaaEwDk8
import Derived.Test.YtlgpleiobieniaaEwVc9
set_option linter.unusedVariables false
set_option linter.unusedSimpArgs false
namespace Go.Ew
open Go.Ev Go.Deep
theorem lg_eq (g:Nat→Int) (L:Nat) (s:ByteArray):∀ (f i p:Nat) (r:Int × Int × Bool),lg g L s f i p r=dLg g L s f i p r
 | 0,i,p,r=>rfl
 | f+1,i,p,r=>by
   rw [lg,dLg]
   split
   ·rfl
   ·split
    ·rfl
    ·exact lg_eq g L s f _ _ _
theorem lgR_eq (g:Nat→Int) (L:Nat) (s:ByteArray):lgR g L s=dLgR g L s:=by
 unfold lgR dLgR
 split
 ·rfl
 ·exact lg_eq g L s _ _ _ _
theorem IC.mono {H H':KH} {a:OA} {n:Nat} {g:Nat→Int} (h:IC H a n g) (hl:Le H H'):IC H' a n g:=by
 rcases h with h | ⟨b,o,e,h1,h2,h3⟩
 ·exact .inl h
 ·exact .inr ⟨b,o,e,h1,hl b e h2,h3⟩
theorem KsOk.pos {S:List St} {ts:List ByteArray} (h:KsOk S ts):0<ts.length:=by
 obtain ⟨bs,q,_⟩:=h.fst
 rcases Nat.eq_zero_or_pos ts.length with z | z
 ·rw [List.eq_nil_of_length_eq_zero z] at q; cases q
 ·exact z
theorem GoodN.rng {S:List St} {ts:List ByteArray} {v:Int} {Z:List Nat} (h:GoodN S ts v Z) : -1≤v∧v<ts.length:=by
 rcases h with ⟨_,h⟩ | ⟨_,k,bs,h1,h2,_⟩
 ·omega
 ·have hk:k<ts.length:=by
   rcases Nat.lt_or_ge k ts.length with z | z
   ·exact z
   ·rw [List.getElem?_eq_none z] at h2; cases h2
  omega
theorem rows_spec {pats:List (List It)} (hpar:∀ l∈pats,∃ s,parseR s=some l) (hp:pats.length≤50) {ts:List ByteArray} {g:Nat→Int} (hk:KsOk (nfaM pats) ts) (hC:RowsC (nfaM pats) ts g ts.length) {s:ByteArray} (hs:s.size≤1000000) :
 ∃ k j:Nat,lgR g ts.length s=(((k:Nat):Int),((j:Nat):Int),decide (0<j))∧LgSpec (Has pats s) s.size (((k:Nat):Int),((j:Nat):Int),decide (0<j))∧j≤s.size:=by
 obtain ⟨g1,g2,g3⟩:=good_of hpar
 obtain ⟨keys,h1,h2⟩:=hC.rows hk
 have hsp:=nfaL_spec g3 (by omega) hs
 have e:lgR g ts.length s=nfaL (nfaM pats) s:=by rw [lgR_eq,← h1,dLgR_nfa h2]
 rw [← e] at hsp
 generalize lgR g ts.length s=r at hsp
 cases hsp with
 | no h=>exact ⟨0,0,rfl,.no h,by omega⟩
 | yes k j q1 q2 q3 q4 q5 =>
   have hd:decide (0<j)=true:=decide_eq_true (by omega)
   rw [← hd]
   exact ⟨k,j,rfl,by rw [hd]; exact .yes k j q1 q2 q3 q4 q5,q2⟩
end Go.Ew
namespace Go.Proofs.Ytlgpleiobieniaa
open Go.Ev Go.Ew
namespace Va
section
variable (ok : EnvOk (env Try.prog))
include ok
theorem c9p {pats:List (List It)} (hpar:∀ l∈pats,∃ s,parseR s=some l) (hp:pats.length≤50) {a:OA} {c:Nat} {H:KH} {Q:PQ} (hst:SsN H (nfaM pats) a)
 (hq:∀ ra rc ts g H',Le H H'→IC H' ra (ts.length*257) g→KsOk (nfaM pats) ts→RowsC (nfaM pats) ts g ts.length→ts.length≤300→Q (.slice ra ts.length rc) H')
 (hmany:∀ H',Le H H'→8<clsAll pats→Q (.slice none 0 0) H'):Does (env Try.prog) 14 [.slice a (nfaM pats).length c] H Q:=by
 obtain ⟨g1,_,_⟩:=good_of hpar
 obtain ⟨h1,h2⟩:=nfaM_small g1 hp
 exact c14 ok hst (nfaM_byte hpar) (by unfold nfaM; simp) h1 h2 hq fun ts H' l1 l2 l3=>hmany H' l1 (few_rows hpar l2 l3)
end
end Va
end Go.Proofs.Ytlgpleiobieniaa
