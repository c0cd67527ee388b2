import Derived.Test.YtfhjkkbaghanhaaGreatEwNt1
set_option linter.unusedVariables false
set_option linter.unusedSimpArgs false
namespace Go.Ew
open Go.Ev Go.Deep
theorem kslice_ok {H:KH} {sz n c m c':Nat} {a a':OA} {lo hi:Option Value} (hz:1≤sz) (q:kslice H sz a n c lo hi=some (.slice a' m c')):SlOk H sz a' m c':=by
 unfold kslice at q
 cases a with
 | none =>
   simp only at q
   split at q
   ·cases q; rfl
   ·cases q
 | some b =>
   obtain ⟨bb,bo,sp⟩:=b
   cases sp with
   | some sp =>
     simp only [Option.isNone_some,cond_false] at q
     split at q
     ·cases q; exact .inr ⟨by simp,rfl⟩
     ·cases q
   | none =>
     simp only [Option.isNone_none,cond_true] at q
     split at q
     ·rename_i l u cl h1 h2 h3
      cases hb:(Nat.ble l u&&Nat.ble u cl&&Nat.ble n cl&&true)<;>simp only [hb,cond_true,cond_false,reduceCtorEq] at q
      simp only [Bool.and_true,Bool.and_eq_true] at hb
      have b1:=Nat.le_of_ble_eq_true hb.1.1
      have b2:=Nat.le_of_ble_eq_true hb.1.2
      cases hlt:Nat.blt c unkU<;>simp only [hlt,cond_true,cond_false] at q
      ·have hk:kcap H ⟨bb,bo,none⟩ c sz=some cl:=h3
       unfold kcap at hk
       simp only [hlt,cond_false] at hk
       cases he:H bb with
       | none=>rw [he] at hk; cases hk
       | some e =>
         rw [he] at hk
         simp only at hk
         cases hb2:(Nat.beq e.unk sz&&Nat.beq bo ((c-unkU)*sz)&&Nat.ble 1 sz&&Nat.ble bo e.len)<;>simp only [hb2,cond_true,cond_false,Option.some.injEq,reduceCtorEq] at hk
         simp only [Bool.and_eq_true] at hb2
         have d1:=Nat.eq_of_beq_eq_true hb2.1.1.1
         have d2:=Nat.eq_of_beq_eq_true hb2.1.1.2
         have d3:=Nat.le_of_ble_eq_true hb2.2
         have hcu:unkU≤c:=by
          rcases Nat.lt_or_ge c unkU with z | z
          ·rw [show Nat.blt c unkU=true from Nat.ble_eq_true_of_le z] at hlt; cases hlt
          ·exact z
         cases h0:Nat.blt l cl<;>simp only [h0,cond_true,cond_false] at q
         ·cases h4:Nat.beq l 0<;>simp only [h4,cond_true,cond_false,Option.some.injEq] at q
          ·have q:(Value.slice (some ⟨0,0,some 0⟩) 0 _)=_:=q
           cases q
           exact .inr ⟨by simp,rfl⟩
          ·cases q
           exact .inl ⟨rfl,cl,h3,b2⟩
         ·cases q
          have hl:l<cl:=Nat.le_of_ble_eq_true h0
          refine .inl ⟨rfl,cl-l,?_,by omega⟩
          unfold kcap
          have e1:Nat.blt (c+l) unkU=false:=by
           cases hq:Nat.blt (c+l) unkU
           ·rfl
           ·have:c+l<unkU:=Nat.le_of_ble_eq_true hq
            omega
          simp only [e1,cond_false,he]
          have hmul:cl*sz≤e.len-bo:=by rw [← hk]; exact Nat.div_mul_le_self _ _
          have hlm:l*sz≤cl*sz:=Nat.mul_le_mul_right _ (by omega)
          have f1:Nat.beq (bo+l*sz) ((c+l-unkU)*sz)=true:=by
           have:c+l-unkU=(c-unkU)+l:=by omega
           rw [this,Nat.add_mul,← d2]
           exact Nat.beq_refl _
          have f2:Nat.ble (bo+l*sz) e.len=true:=Nat.ble_eq_true_of_le (by omega)
          simp only [hb2.1.1.1,f1,f2,nble _ _ hz,Bool.and_self,cond_true]
          congr 1
          have:e.len-(bo+l*sz)=e.len-bo-l*sz:=by omega
          rw [this,← hk]
          exact Nat.sub_mul_div (e.len-bo) sz l ▸ by rw [Nat.mul_comm]
      ·have hk:kcap H ⟨bb,bo,none⟩ c sz=some cl:=h3
       unfold kcap at hk
       simp only [hlt,cond_true,Option.some.injEq] at hk
       subst hk
       have hcu:c<unkU:=Nat.le_of_ble_eq_true hlt
       have hkc:∀ b,kcap H b (c-l) sz=some (c-l):=fun b=>by
        unfold kcap
        rw [show Nat.blt (c-l) unkU=true from Nat.ble_eq_true_of_le (by show c-l+1≤unkU; omega)]
        rfl
       cases h4:Nat.beq c l<;>simp only [h4,cond_true,cond_false] at q
       ·cases q; exact .inl ⟨rfl,c-l,hkc _,by omega⟩
       ·cases q; exact .inl ⟨rfl,c-l,hkc _,by omega⟩
     ·cases q
inductive MoN (R:Nat→Nat→Prop):Nat→Nat→Nat→Prop where
 | one (i j:Nat) (h:R i j):MoN R 1 i j
 | more (n i k j:Nat) (h:MoN R n i k) (r:R k j):MoN R (n+1) i j
theorem Mo.app {R:Nat→Nat→Prop} {i k j:Nat} (h:Mo R i k) (r:Mo R k j):Mo R i j:=by
 induction h with
 | none i=>exact r
 | more i k' j' h1 h2 ih=>exact .more _ _ _ h1 (ih r)
theorem Mo.of {R:Nat→Nat→Prop} {i j:Nat} (h:R i j):Mo R i j:=.more _ _ _ h (.none _)
theorem MoN.mo {R:Nat→Nat→Prop} {n i j:Nat} (h:MoN R n i j):∃ k,R i k∧Mo R k j:=by
 induction h with
 | one i j h=>exact ⟨j,h,.none _⟩
 | more n i k j h r ih =>
   obtain ⟨k',h1,h2⟩:=ih
   exact ⟨k',h1,h2.app (.of r)⟩
theorem MoN.front {R:Nat→Nat→Prop} {n i k j:Nat} (h:R i k) (r:MoN R n k j):MoN R (n+1) i j:=by
 induction r with
 | one k j h1=>exact .more _ _ _ _ (.one _ _ h) h1
 | more n k k' j h1 h2 ih=>exact .more _ _ _ _ (ih h) h2
theorem Mo.few {R:Nat→Nat→Prop} (hle:∀ i j,R i j→i≤j) {i j:Nat} (h:Mo R i j):i=j∨∃ n,1≤n∧n≤j-i∧MoN R n i j:=by
 induction h with
 | none i=>exact .inl rfl
 | more i k j h1 h2 ih =>
   have q:=hle _ _ h1
   rcases ih with z | ⟨n,z1,z2,z3⟩
   ·subst z
    rcases Nat.lt_or_ge i k with u | u
    ·exact .inr ⟨1,by omega,by omega,.one _ _ h1⟩
    ·exact .inl (by omega)
   ·rcases Nat.lt_or_ge i k with u | u
    ·exact .inr ⟨n+1,by omega,by omega,.front h1 z3⟩
    ·have:i=k:=by omega
     subst this
     exact .inr ⟨n,z1,z2,z3⟩
theorem MoN.le {R:Nat→Nat→Prop} (hle:∀ i j,R i j→i≤j) {n i j:Nat} (h:MoN R n i j):i≤j:=by
 induction h with
 | one i j h=>exact hle _ _ h
 | more n i k j h r ih=>exact Nat.le_trans ih (hle _ _ r)
theorem plus_few {R:Nat→Nat→Prop} (hle:∀ i j,R i j→i≤j) {i j N:Nat} (hj:j≤N):(∃ k,R i k∧Mo R k j)↔∃ n,1≤n∧n≤N+2∧MoN R n i j:=by
 constructor
 ·rintro ⟨k,h1,h2⟩
  rcases h2.few hle with z | ⟨n,z1,z2,z3⟩
  ·subst z; exact ⟨1,by omega,by omega,.one _ _ h1⟩
  ·exact ⟨n+1,by omega,by omega,.front h1 z3⟩
 ·rintro ⟨n,_,_,h⟩
  exact h.mo
theorem star_few {R:Nat→Nat→Prop} (hle:∀ i j,R i j→i≤j) {i j N:Nat} (hj:j≤N):Mo R i j↔i=j∨∃ n,1≤n∧n≤N+2∧MoN R n i j:=by
 constructor
 ·intro h
  rcases h.few hle with z | ⟨n,z1,z2,z3⟩
  ·exact .inl z
  ·exact .inr ⟨n,z1,by omega,z3⟩
 ·rintro (z | ⟨n,_,_,h⟩)
  ·subst z; exact .none _
  ·obtain ⟨k,h1,h2⟩:=h.mo
   exact .more _ _ _ h1 h2
end Go.Ew
