/-
 The law LinesJoin returns true,whatever its arguments are and whatever lies in memory; nothing that was there is changed. No conditions.
 How: what each function on the law's road does is read off its code (the texts Ew..) and shown; that reading is proved right over named memory (the texts Ev..),in which the arguments' memory is known,to be read alone.
-/
import Derived.Test.YtpojhfpmoieidaaRows
import Derived.Test.YtpojhfpmoieidaaEwVc1
import Derived.WalkKit
import Derived.ProofKit
import Derived.OpenShut
import Derived.Below
namespace Go.Proofs.Ytpojhfpmoieidaa
open Go.ChangeShapes Go.WideShapes Go.ChangeAt Go.RowKit Go.Ev Go.Ew
namespace Va
theorem laid:laidOutB Try.prog=true:=by kernel_rfl
theorem hereF:(tget (env Try.prog).ff 5).isSome=true:=by kernel_rfl
set_option maxRecDepth 100000 in
theorem lifted (os:Os) (started:os.Started) (H:Type) (enc:TypeId × Value→H) :
 ReturnsInHanded {} Try.checked os 5 .any (Rows.linesJoinSpec.pre6 enc Try.prog Try.f5 Rows.linesJoinRow.domain false) (Rows.linesJoinSpec.post enc Try.prog Try.f5 false true false false):=by
 refine returnsInHanded_of_change (C:=Try.checked) own started (by kernel_rfl) Try.func5
  (ChangeSpec.witness6 (enc:=enc) (C:=Try.checked) false ⟨#[],#[.string ⟨#[]⟩,.string ⟨#[]⟩],[]⟩ 8 (by kernel_rfl) (by kernel_rfl) (by kernel_rfl) (by kernel_rfl)) ?_
 intro W base args ds gs before hval0 hW hcnd _
 have hW':=hW
 obtain ⟨p,q,hA0,hV,rfl,hfz,hnd⟩:=hW
 have hA:DataW.TrodAll enc Try.prog W 0 (fun _=>true) true Try.f5.params.toList args.toList ds p:=hA0
 rw [Try.params5] at hA
 obtain ⟨rfl,rfl⟩:=trodVars_none hV
 have hAk:=hA
 obtain ⟨v0,v1,d0,d1,p0,p1,rfl,rfl,rfl,h0,h1⟩:=trodAll_two hA
 have hlt:∀ x∈p0++p1,x.block<W.heap.size:=fun x hx=>hW'.lt x (by simpa using hx)
 have hf:∀ ps:List MemPlace,(∀ x∈ps,x∈p0++p1)→W.noneFrozen ps:=fun ps hs b o hm=>hfz b o (by simpa using hs _ hm)
 obtain ⟨s0,e0⟩:=okWide_string Try.underlying9 (hval0 0 9 v0 (by rw [Try.params5]; rfl) rfl)
 subst e0
 obtain ⟨s1,e1⟩:=okWide_string Try.underlying9 (hval0 1 9 v1 (by rw [Try.params5]; rfl) rfl)
 subst e1
 obtain ⟨fn,hfn⟩:=Option.isSome_iff_exists.1 hereF
 have walk:=top ok hfn (w:=W) (cargs:=[.string s0,.string s1]) rfl (Va.c5 ok ) ⟨(show Go.Ev.W _ (.string s0) _ from rfl),(show Go.Ev.W _ (.string s1) _ from rfl),trivial⟩
 refine walk.mono fun e W' ⟨he,bel⟩=>?_
 subst he
 have hk:=trodAll_below laid bel _ _ _ _ (fun t ht=>by
  have e:t=9:=by simpa using ht
  subst e
  exact ⟨by kernel_rfl,of_decide_eq_true (by kernel_rfl)⟩) hAk hlt
 exact ⟨_,rfl,_,_,_,[],_,[],hW',trodAll_mk1 (shut_bool Try.underlying4 _),by rw [Try.params5]; exact hk,rfl,bel.frame _,fun h=>by cases h⟩
theorem over:Rows.linesJoinRow.holds Try.pinned (OpenSpec.ofChange Rows.linesJoinSpec) :=
 OpenClaim.holds_of_wide 5 Try.f5 rfl rfl rfl rfl rfl rfl rfl ⟨rfl,rfl,rfl,rfl,rfl⟩ rfl rfl rfl rfl rfl (by kernel_rfl) Try.func5 (by kernel_rfl)
  (of_decide_eq_true (by kernel_rfl)) (by unfold Func.isWrapper; first | (rw [if_pos (by decide +kernel)]; kernel_rfl) | (rw [if_neg (by decide +kernel)]; exact ⟨rfl,rfl⟩))
  (fun os started H enc _=>lifted os started H enc)
end Va
theorem LinesJoin_holds:Rows.LinesJoinSaid:=Va.over
#print axioms LinesJoin_holds
end Go.Proofs.Ytpojhfpmoieidaa
