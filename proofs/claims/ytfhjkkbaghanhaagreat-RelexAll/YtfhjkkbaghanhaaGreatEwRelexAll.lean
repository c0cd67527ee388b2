/-
 The law RelexAll returns true,whatever its arguments are and whatever lies in memory; nothing that was there is changed. No conditions.
 How: what each function on the law's road does is read off its code (the texts Ew..) and shown; that reading is proved right over named memory (the texts Ev..),in which the arguments' memory is known,to be read alone.
-/
import Derived.Test.YtfhjkkbaghanhaaGreatRows
import Derived.Test.YtfhjkkbaghanhaaGreatEwLx1
import Derived.Test.YtfhjkkbaghanhaaGreatEwSp
import Derived.WalkKit
import Derived.ProofKit
import Derived.OpenShut
import Derived.Below
namespace Go.Proofs.YtfhjkkbaghanhaaGreat
open Go.ChangeShapes Go.WideShapes Go.ChangeAt Go.RowKit Go.Ev Go.Ew
namespace Va
theorem laid:laidOutB Tryz.prog=true:=by kernel_rfl
theorem hereF:(tget (env Tryz.prog).ff 3).isSome=true:=by kernel_rfl
set_option maxRecDepth 100000 in
theorem lifted (os:Os) (started:os.Started) (H:Type) (enc:TypeId × Value→H) :
 ReturnsInHanded {} Tryz.checked os 3 .any (Rows.relexAllSpec.pre6 enc Tryz.prog Tryz.f3 Rows.relexAllRow.domain false) (Rows.relexAllSpec.post enc Tryz.prog Tryz.f3 false true false false):=by
 refine returnsInHanded_of_change (C:=Tryz.checked) own started (by kernel_rfl) Tryz.func3
  (ChangeSpec.witness6 (enc:=enc) (C:=Tryz.checked) false ⟨#[],#[.slice none 0 0,.slice none 0 0,.slice none 0 0],[]⟩ 8 (by kernel_rfl) (by kernel_rfl) (by kernel_rfl) (by kernel_rfl)) ?_
 intro W base args ds gs before hval0 hW hcnd _
 have hW':=hW
 obtain ⟨p,q,hA0,hV,rfl,hfz,hnd⟩:=hW
 have hA:DataW.TrodAll enc Tryz.prog W 0 (fun _=>true) true Tryz.f3.params.toList args.toList ds p:=hA0
 rw [Tryz.params3] at hA
 obtain ⟨rfl,rfl⟩:=trodVars_none hV
 have hAk:=hA
 obtain ⟨v0,v1,v2,d0,d1,d2,p0,p1,p2,rfl,rfl,rfl,h0,h1,h2⟩:=trodAll_three hA
 have hlt:∀ x∈p0++p1++p2,x.block<W.heap.size:=fun x hx=>hW'.lt x (by simpa using hx)
 have hf:∀ ps:List MemPlace,(∀ x∈ps,x∈p0++p1++p2)→W.noneFrozen ps:=fun ps hs b o hm=>hfz b o (by simpa using hs _ hm)
 have s0:=okWide_slice Tryz.underlying22 (hval0 0 22 v0 (by rw [Tryz.params3]; rfl) rfl)
 obtain ⟨a0,n0,c0,w0,u0⟩:=arg_u8 Tryz.underlying22 (by kernel_rfl) Tryz.underlying5 h0 (hf p0 fun x hx=>by simp [hx]) s0
 have s1:=okWide_slice Tryz.underlying22 (hval0 1 22 v1 (by rw [Tryz.params3]; rfl) rfl)
 obtain ⟨a1,n1,c1,w1,u1⟩:=arg_u8 Tryz.underlying22 (by kernel_rfl) Tryz.underlying5 h1 (hf p1 fun x hx=>by simp [hx]) s1
 have s2:=okWide_slice Tryz.underlying23 (hval0 2 23 v2 (by rw [Tryz.params3]; rfl) rfl)
 obtain ⟨a2,n2,c2,w2,u2⟩:=arg_spl Tryz.underlying23 Tryz.underlying40 (by kernel_rfl) rfl rfl rfl (by kernel_rfl) (by kernel_rfl) (by kernel_rfl) Tryz.underlying3 Tryz.underlying3 Tryz.underlying9 h2 (hf p2 fun x hx=>by simp [hx]) s2
 obtain ⟨fn,hfn⟩:=Option.isSome_iff_exists.1 hereF
 have walk:=top ok hfn (w:=W) (cargs:=[v0,v1,v2]) rfl (Va.c3 ok u0 u1 u2) ⟨absV_W w0,absV_W w1,absV_W w2,trivial⟩
 refine walk.mono fun e W' ⟨he,bel⟩=>?_
 subst he
 have hk:=trodAll_below laid bel _ _ _ _ (fun t ht=>by
  have e:t=22∨t=23:=by simpa using ht
  rcases e with rfl | rfl
  all_goals exact ⟨by kernel_rfl,of_decide_eq_true (by kernel_rfl)⟩) hAk hlt
 exact ⟨_,rfl,_,_,_,[],_,[],hW',trodAll_mk1 (shut_bool Tryz.underlying4 _),by rw [Tryz.params3]; exact hk,rfl,bel.frame _,fun h=>by cases h⟩
theorem over:Rows.relexAllRow.holds Tryz.pinned (OpenSpec.ofChange Rows.relexAllSpec) :=
 OpenClaim.holds_of_wide 3 Tryz.f3 rfl rfl rfl rfl rfl rfl rfl ⟨rfl,rfl,rfl,rfl,rfl⟩ rfl rfl rfl rfl rfl (by kernel_rfl) Tryz.func3 (by kernel_rfl)
  (of_decide_eq_true (by kernel_rfl)) (by unfold Func.isWrapper; first | (rw [if_pos (by decide +kernel)]; kernel_rfl) | (rw [if_neg (by decide +kernel)]; exact ⟨rfl,rfl⟩))
  (fun os started H enc _=>lifted os started H enc)
end Va
theorem RelexAll_holds:Rows.RelexAllSaid:=Va.over
#print axioms RelexAll_holds
end Go.Proofs.YtfhjkkbaghanhaaGreat
