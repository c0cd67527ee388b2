import Derived.Test.YtfhjkkbaghanhaaGreatEwNg1
import Derived.Test.YtfhjkkbaghanhaaGreatEwVc9
set_option linter.unusedVariables false
set_option linter.unusedSimpArgs false
namespace Go.Ew
open Go.Ev Go.Deep
theorem LgSpec.sh {M:Nat→Nat→Prop} {n:Nat} {r:Int × Int × Bool} (h:LgSpec M n r):∃ k j:Nat,r=(((k:Nat):Int),((j:Nat):Int),decide (0<j))∧j≤n:=by
 cases h with
 | no h=>exact ⟨0,0,rfl,by omega⟩
 | yes k j h1 h2=>exact ⟨k,j,by rw [decide_eq_true (by omega:0<j)],h2⟩
theorem LgSpec.one {l:List It} {s:ByteArray} {n:Nat} {r:Int × Int × Bool} (h:LgSpec (Has [l] s) n r):r.1=0:=by
 cases h with
 | no h=>rfl
 | yes k j h1 h2 h3 =>
   obtain ⟨l',hk,_⟩:=h3
   have:k=0:=by
    rcases Nat.eq_zero_or_pos k with q | q
    ·exact q
    ·rw [List.getElem?_eq_none (by simp; omega)] at hk; cases hk
   rw [this]; rfl
theorem bld_free:∀ (t:Ptn) (nx n:Nat),t.fit→∀ s∈(bld t nx n).1,s.free.length≤100
 | .cls L,nx,n,hf,s,h=>by
   have hf:L.length≤24:=hf
   simp only [bld] at h
   split at h
   ·obtain ⟨r,_,rfl⟩:=List.mem_map.1 h; simp [clsS5]
   ·rcases List.mem_append.1 h with h | h
    ·obtain ⟨r,_,rfl⟩:=List.mem_map.1 h; simp [clsS5]
    ·have:=List.mem_singleton.1 h; rw [this]; simp [forkS]; omega
 | .join a b,nx,n,hf,s,h=>by
   simp only [bld] at h
   rcases List.mem_append.1 h with h | h
   ·exact bld_free b _ _ hf.2 s h
   ·exact bld_free a _ _ hf.1 s h
 | .alt a b,nx,n,hf,s,h=>by
   simp only [bld] at h
   rcases List.mem_append.1 h with h | h
   ·rcases List.mem_append.1 h with h | h
    ·exact bld_free a _ _ hf.1 s h
    ·exact bld_free b _ _ hf.2 s h
   ·have:=List.mem_singleton.1 h; rw [this]; simp [forkS]
 | .star a,nx,n,hf,s,h=>by
   simp only [bld] at h
   rcases List.mem_cons.1 h with h | h
   ·rw [h]; simp [forkS]
   ·exact bld_free a _ _ hf s h
 | .plus a,nx,n,hf,s,h=>by
   simp only [bld] at h
   rcases List.mem_cons.1 h with h | h
   ·rw [h]; simp [forkS]
   ·exact bld_free a _ _ hf s h
 | .may a,nx,n,hf,s,h=>by
   simp only [bld] at h
   rcases List.mem_append.1 h with h | h
   ·exact bld_free a _ _ hf s h
   ·have:=List.mem_singleton.1 h; rw [this]; simp [forkS]
theorem ofM_small:∀ (ts:List (List It)) (k:Nat) (f:List Int) (tl:List St),(∀ l∈ts,GoodP l)→(∀ s∈tl,s.free.length≤100)→(ofM ts k f tl).1.length=f.length+ts.length∧(ofM ts k f tl).2.length≤tl.length+1300*ts.length∧∀ s∈(ofM ts k f tl).2,s.free.length≤100
 | [],k,f,tl,hg,h=>⟨by simp [ofM],by simp [ofM],h⟩
 | l :: ts,k,f,tl,hg,h=>by
   have hgl:=hg l (by simp)
   have hfit:(treeD l).fit:=fit_of _ (by rw [hgl.it]; exact hgl.rg)
   have hbl:=bld_len (treeD l) (tl.length+1) (tl.length+2) hfit
   have hit:(treeD l).items.length≤47:=by rw [hgl.it]; exact hgl.ln
   obtain ⟨h1,h2,h3⟩:=ofM_small ts (k+1) (f++[((bld (treeD l) (tl.length+1) (tl.length+2)).2:Int)]) (tl++endS k :: (bld (treeD l) (tl.length+1) (tl.length+2)).1) (fun l' hl'=>hg l' (by simp [hl'])) (fun s hs=>by
    rcases List.mem_append.1 hs with q | q
    ·exact h s q
    ·rcases List.mem_cons.1 q with q | q
     ·rw [q]; simp [endS]
     ·exact bld_free _ _ _ hfit s q)
   rw [ofM]
   refine ⟨by rw [h1]; simp; omega,?_,h3⟩
   simp only [List.length_append,List.length_cons] at h2 ⊢
   omega
theorem nfaM_small {pats:List (List It)} (hg:∀ l∈pats,GoodP l) (hp:pats.length≤50):(nfaM pats).length≤900000∧∀ x,(stAt (nfaM pats) x).free.length≤1000000:=by
 obtain ⟨h1,h2,h3⟩:=ofM_small pats 0 [] [] hg (fun s hs=>by cases hs)
 refine ⟨?_,fun x=>?_⟩
 ·unfold nfaM; simp only [List.length_cons,List.length_nil] at h2 ⊢; omega
 ·unfold stAt
  cases hx:(nfaM pats)[x]? with
  | none=>simp [st0]
  | some s =>
    have hm:=List.mem_of_getElem? hx
    unfold nfaM at hm
    rcases List.mem_cons.1 hm with q | q
    ·rw [q]; simp only [Option.getD_some,forkS,h1]; simp; omega
    ·have:=h3 s q
     simp only [Option.getD_some]; omega
theorem good_of {pats:List (List It)} (h:∀ l∈pats,∃ s,parseR s=some l):(∀ l∈pats,GoodP l)∧(∀ l∈pats,said (treeD l).text l=true)∧∀ l∈pats,(treeD l).okT:=by
 refine ⟨fun l hl=>?_,fun l hl=>?_,fun l hl=>?_⟩
 ·obtain ⟨s,hs⟩:=h l hl; exact parse_good hs
 ·obtain ⟨s,hs⟩:=h l hl; exact parse_said hs
 ·obtain ⟨s,hs⟩:=h l hl
  have hg:=parse_good hs
  exact okT_of _ (by rw [hg.it]; exact hg.ok)
end Go.Ew
namespace Go.Proofs.YtfhjkkbaghanhaaGreat
open Go.Ev Go.Ew
namespace Va
section
variable (ok : EnvOk (env Tryz.prog))
include ok
theorem c11p {pats:List (List It)} {a:OA} {c:Nat} {H:KH} {Q:PQ} (hp:PtR H pats a) (hpar:∀ l∈pats,∃ s,parseR s=some l) (hs:pats.length≤50)
 (hq:∀ a' c' H',Le H H'→SsN H' (nfaM pats) a'→Q (.slice a' (nfaM pats).length c') H'):Does (env Tryz.prog) 23 [.slice a pats.length c] H Q:=by
 obtain ⟨g1,g2,g3⟩:=good_of hpar
 exact c23 ok hp g1 hs (fun ⟨l,h1,h2⟩=>by rw [g2 l h1] at h2; cases h2) fun _ a' c' H' hl hst=>hq a' c' H' hl hst
end
end Va
end Go.Proofs.YtfhjkkbaghanhaaGreat
