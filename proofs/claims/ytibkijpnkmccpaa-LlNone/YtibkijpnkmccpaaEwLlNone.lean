/-
 The law LlNone returns true,whatever its arguments are and whatever lies in memory; nothing that was there is changed. No conditions.
 How: what each function on the law's road does is read off its code (the texts Ew..) and shown; that reading is proved right over named memory (the texts Ev..),in which the arguments' memory is known,to be read alone.
-/
import Derived.Test.YtibkijpnkmccpaaRows
import Derived.Test.YtibkijpnkmccpaaEwLl6
import Derived.WalkKit
import Derived.ProofKit
import Derived.OpenShut
import Derived.Below
namespace Go.Proofs.Ytibkijpnkmccpaa
open Go.ChangeShapes Go.WideShapes Go.ChangeAt Go.RowKit Go.Ev Go.Ew
namespace Va
theorem laid:laidOutB Try.prog=true:=by kernel_rfl
theorem hereF:(tget (env Try.prog).ff 6).isSome=true:=by kernel_rfl
set_option maxRecDepth 100000 in
theorem lifted (os:Os) (started:os.Started) (H:Type) (enc:TypeId × Value→H) :
 ReturnsInHanded {} Try.checked os 6 .any (Rows.llNoneSpec.pre6 enc Try.prog Try.f6 Rows.llNoneRow.domain false) (Rows.llNoneSpec.post enc Try.prog Try.f6 false true false false):=by
 refine returnsInHanded_of_change (C:=Try.checked) own started (by kernel_rfl) Try.func6
  (ChangeSpec.witness6 (enc:=enc) (C:=Try.checked) false ⟨#[],#[.slice none 0 0],[]⟩ 8 (by kernel_rfl) (by kernel_rfl) (by kernel_rfl) (by kernel_rfl)) ?_
 intro W base args ds gs before hval0 hW hcnd _
 have hW':=hW
 obtain ⟨p,q,hA0,hV,rfl,hfz,hnd⟩:=hW
 have hA:DataW.TrodAll enc Try.prog W 0 (fun _=>true) true Try.f6.params.toList args.toList ds p:=hA0
 rw [Try.params6] at hA
 obtain ⟨rfl,rfl⟩:=trodVars_none hV
 have hAk:=hA
 obtain ⟨v0,d0,rfl,rfl,h0⟩:=trodAll_one hA
 have hlt:∀ x∈p,x.block<W.heap.size:=fun x hx=>hW'.lt x (by simpa using hx)
 have hf:∀ ps:List MemPlace,(∀ x∈ps,x∈p)→W.noneFrozen ps:=fun ps hs b o hm=>hfz b o (by simpa using hs _ hm)
 have s0:=okWide_slice Try.underlying22 (hval0 0 22 v0 (by rw [Try.params6]; rfl) rfl)
 obtain ⟨a0,n0,c0,w0,u0⟩:=arg_u8 Try.underlying22 (by kernel_rfl) Try.underlying5 h0 (hf p fun x hx=>hx) s0
 obtain ⟨fn,hfn⟩:=Option.isSome_iff_exists.1 hereF
 have walk:=top ok hfn (w:=W) (cargs:=[v0]) rfl (Va.c6 ok u0) ⟨absV_W w0,trivial⟩
 refine walk.mono fun e W' ⟨he,bel⟩=>?_
 subst he
 have hk:=trodAll_below laid bel _ _ _ _ (fun t ht=>by
  have e:t=22:=by simpa using ht
  subst e
  exact ⟨by kernel_rfl,of_decide_eq_true (by kernel_rfl)⟩) hAk hlt
 exact ⟨_,rfl,_,_,_,[],_,[],hW',trodAll_mk1 (shut_bool Try.underlying4 _),by rw [Try.params6]; exact hk,rfl,bel.frame _,fun h=>by cases h⟩
theorem over:Rows.llNoneRow.holds Try.pinned (OpenSpec.ofChange Rows.llNoneSpec) :=
 OpenClaim.holds_of_wide 6 Try.f6 rfl rfl rfl rfl rfl rfl rfl ⟨rfl,rfl,rfl,rfl,rfl⟩ rfl rfl rfl rfl rfl (by kernel_rfl) Try.func6 (by kernel_rfl)
  (of_decide_eq_true (by kernel_rfl)) (by unfold Func.isWrapper; first | (rw [if_pos (by decide +kernel)]; kernel_rfl) | (rw [if_neg (by decide +kernel)]; exact ⟨rfl,rfl⟩))
  (fun os started H enc _=>lifted os started H enc)
end Va
theorem LlNone_holds:Rows.LlNoneSaid:=Va.over
#print axioms LlNone_holds
end Go.Proofs.Ytibkijpnkmccpaa
