import Derived.Test.YtfhjkkbaghanhaaGreatEwS4
import Derived.KernelRfl
set_option linter.unusedVariables false
namespace Go.Ew
open Go.Ev Go.Deep
theorem ff_of {E:Env} (hE:EnvOk E) {g:Nat} {fn:Func} (h1:(tget E.ff g).isSome=true) (h2:E.P.funcs[g]? = some fn):tget E.ff g=some fn:=by
 obtain ⟨f,hf⟩:=Option.isSome_iff_exists.1 h1
 obtain ⟨h3,_⟩:=hE.ff g f hf
 rw [h2] at h3
 rw [hf,← h3]
theorem does_true {E:Env} {g:Nat} {H:KH} {Q:PQ} (h0:Nat.blt g unkU=true) (h1:(tget E.ff g).isNone=true) (h2:tget E.xx g=some 2) (hq:Q (.bool true) H):Does E g [] H Q:=by
 have h1:tget E.ff g=none:=by
  cases h:tget E.ff g with
  | none=>rfl
  | some f=>rw [h] at h1; cases h1
 refine ⟨blt_lt h0,fun h wf know=>⟨_,h,H,⟨0,fun m _=>?_⟩,hq,wf,know,Nat.le_refl _,fun _ _ _=>rfl,fun k q=>.inl q⟩⟩
 simp only [callA,h0,cond_true,h1,xext,h2]
theorem does_spl {E:Env} {g:Nat} {s p:ByteArray} {a n:Int} {H:KH} {Q:PQ} (h0:Nat.blt g unkU=true) (h1:(tget E.ff g).isNone=true) (h2:tget E.xx g=some 4) (hb:splB s a n p=true) (hq:Q (.string (splT s a.toNat n.toNat p)) H):Does E g [.string s,.agg #[.int .i64 a,.int .i64 n,.string p]] H Q:=by
 have h1:tget E.ff g=none:=by
  cases h:tget E.ff g with
  | none=>rfl
  | some f=>rw [h] at h1; cases h1
 refine ⟨blt_lt h0,fun h wf know=>⟨_,h,H,⟨0,fun m _=>?_⟩,hq,wf,know,Nat.le_refl _,fun _ _ _=>rfl,fun k q=>.inl q⟩⟩
 simp only [callA,h0,cond_true,h1,xext,h2,splX,hb]
end Go.Ew
