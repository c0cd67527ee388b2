import Derived.Test.YtfhjkkbaghanhaaGreatEwSl
set_option linter.unusedVariables false
set_option linter.unusedSimpArgs false
namespace Go.Ew
open Go.Ev Go.Deep
theorem Does.frame {E:Env} {g:Nat} {args:List Value} {K:KH} {p:Nat} {e:Ent} {Q:PQ} (hK:K p=none)
 (hf:Does E g args K fun v K'=>K' p=none→Q v (K'.new p e)):Does E g args (K.new p e) Q:=by
 refine ⟨hf.lt,fun h hn hh=>?_⟩
 have hp:tget h.m p=some e:=hh p e (by simp [KH.new])
 have hlt:p<h.nxt:=by
  rcases Nat.lt_or_ge p h.nxt with q | q
  ·exact q
  ·rw [hn p q] at hp; cases hp
 obtain ⟨v,h',K',h1,h2,h3,h4,h5,h6,h7⟩:=hf.run h hn fun k e' q=>hh k e' (by
  simp only [KH.new]
  rw [if_neg (fun ek=>by subst ek; rw [hK] at q; cases q)]
  exact q)
 have hK':K' p=none:=by
  cases hk:K' p with
  | none=>rfl
  | some e' =>
    rcases h7 p (by rw [hk]; simp) with q | q
    ·exact absurd hK q
    ·omega
 refine ⟨v,h',K'.new p e,h1,h2 hK',h3,fun k e' q=>?_,h5,fun k hk q=>?_,fun k q=>?_⟩
 ·simp only [KH.new] at q
  by_cases ek:k=p
  ·subst ek
   simp only [if_true] at q
   rw [h6 k hlt hK,hp]
   exact q
  ·rw [if_neg ek] at q
   exact h4 k e' q
 ·simp only [KH.new] at q
  by_cases ek:k=p
  ·rw [if_pos ek] at q; cases q
  ·rw [if_neg ek] at q
   exact h6 k hk q
 ·simp only [KH.new] at q ⊢
  by_cases ek:k=p
  ·rw [if_pos ek]; left; simp
  ·rw [if_neg ek] at q ⊢
   exact h7 k q
theorem Does.more {E:Env} {g:Nat} {args:List Value} {H0 H:KH} {Q:PQ} (h:Does E g args H0 Q) (hl:Le H0 H):Does E g args H Q:=by
 refine ⟨h.lt,fun hp wf know=>?_⟩
 obtain ⟨v,h',H',h1,h2,h3,h4,h5,h6,h7⟩:=h.run hp wf fun k e q=>know k e (hl k e q)
 exact ⟨v,h',H',h1,h2,h3,h4,h5,fun k hk q=>h6 k hk (hl.none q),fun k q=>(h7 k q).imp (fun g e=>g (hl.none e)) id⟩
theorem Does.post {E:Env} {g:Nat} {args:List Value} {H:KH} {Q Q':PQ} (h:Does E g args H Q) (hq:∀ v H',Q v H'→Q' v H'):Does E g args H Q':=by
 refine ⟨h.lt,fun hp wf know=>?_⟩
 obtain ⟨v,h',H',h1,h2,h3⟩:=h.run hp wf know
 exact ⟨v,h',H',h1,hq v H' h2,h3⟩
def addL (X:KH):List (Nat × Ent)→KH
 | []=>X
 | (b,e) :: F=>(addL X F).new b e
def frL (X:KH):List (Nat × Ent)→Prop
 | []=>True
 | (b,_) :: F=>addL X F b=none∧frL X F
theorem addL_le {X:KH}:∀ {F:List (Nat × Ent)},frL X F→Le X (addL X F)
 | [],_=>Le.refl _
 | (b,e) :: F,h=>(addL_le h.2).trans (Le.new h.1)
theorem Does.frameL {E:Env} {g:Nat} {args:List Value} {X:KH}:∀ {F:List (Nat × Ent)} {Q:PQ},frL X F→(Does E g args X fun v X'=>frL X' F→Q v (addL X' F))→Does E g args (addL X F) Q
 | [],Q,_,h=>h.post fun v X' q=>q trivial
 | (b,e) :: F,Q,hf,h=>by
  refine Does.frame hf.1 (Does.frameL (F:=F) hf.2 (h.post fun v X' q h1 h2=>?_))
  exact q ⟨h2,h1⟩
theorem Does.keep {E:Env} {g:Nat} {args:List Value} {X H:KH} {F:List (Nat × Ent)} {Q:PQ} (hf:frL X F) (hl:Le (addL X F) H) (h:Does E g args X fun v X'=>frL X' F→∀ H',Le (addL X' F) H'→Q v H'):Does E g args H Q :=
 (Does.frameL hf (h.post fun v X' q h1=>q h1 _ (Le.refl _))).more hl
theorem DoesR.post {E:Env} {l:Nat} {args:List Value} {H:KH} {Q Q':PQ} (h:DoesR E l args H Q) (hq:∀ v H',Q v H'→Q' v H'):DoesR E l args H Q':=by
 refine ⟨fun hp wf know=>?_⟩
 obtain ⟨v,h',H',h1,h2,h3⟩:=h.run hp wf know
 exact ⟨v,h',H',h1,hq v H' h2,h3⟩
end Go.Ew
