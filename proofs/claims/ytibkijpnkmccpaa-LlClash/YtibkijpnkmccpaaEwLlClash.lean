/-
 The law LlClash returns true,whatever its arguments are and whatever lies in memory; nothing that was there is changed. No conditions.
 How: what each function on the law's road does is read off its code (the texts Ew..) and shown; that reading is proved right over named memory (the texts Ev..),in which the arguments' memory is known,to be read alone.
-/
import Derived.Test.YtibkijpnkmccpaaRows
import Derived.Test.YtibkijpnkmccpaaEwLl6
import Derived.WalkKit
import Derived.ProofKit
import Derived.OpenShut
import Derived.Below
namespace Go.Proofs.Ytibkijpnkmccpaa
open Go.ChangeShapes Go.WideShapes Go.ChangeAt Go.RowKit Go.Ev Go.Ew
namespace Va
theorem laid:laidOutB Try.prog=true:=by kernel_rfl
theorem hereF:(tget (env Try.prog).ff 4).isSome=true:=by kernel_rfl
set_option maxRecDepth 100000 in
theorem lifted (os:Os) (started:os.Started) (H:Type) (enc:TypeId × Value→H) :
 ReturnsInHanded {} Try.checked os 4 .any (Rows.llClashSpec.pre6 enc Try.prog Try.f4 Rows.llClashRow.domain false) (Rows.llClashSpec.post enc Try.prog Try.f4 false true false false):=by
 refine returnsInHanded_of_change (C:=Try.checked) own started (by kernel_rfl) Try.func4
  (ChangeSpec.witness6 (enc:=enc) (C:=Try.checked) false ⟨#[],#[.slice none 0 0,.int .u8 0],[]⟩ 8 (by kernel_rfl) (by kernel_rfl) (by kernel_rfl) (by kernel_rfl)) ?_
 intro W base args ds gs before hval0 hW hcnd _
 have hW':=hW
 obtain ⟨p,q,hA0,hV,rfl,hfz,hnd⟩:=hW
 have hA:DataW.TrodAll enc Try.prog W 0 (fun _=>true) true Try.f4.params.toList args.toList ds p:=hA0
 rw [Try.params4] at hA
 obtain ⟨rfl,rfl⟩:=trodVars_none hV
 have hAk:=hA
 obtain ⟨v0,v1,d0,d1,p0,p1,rfl,rfl,rfl,h0,h1⟩:=trodAll_two hA
 have hlt:∀ x∈p0++p1,x.block<W.heap.size:=fun x hx=>hW'.lt x (by simpa using hx)
 have hf:∀ ps:List MemPlace,(∀ x∈ps,x∈p0++p1)→W.noneFrozen ps:=fun ps hs b o hm=>hfz b o (by simpa using hs _ hm)
 have s0:=okWide_slice Try.underlying22 (hval0 0 22 v0 (by rw [Try.params4]; rfl) rfl)
 obtain ⟨a0,n0,c0,w0,u0⟩:=arg_u8 Try.underlying22 (by kernel_rfl) Try.underlying5 h0 (hf p0 fun x hx=>by simp [hx]) s0
 obtain ⟨b1,e1,u1⟩:=arg_byte Try.underlying5 h1 (okWide_int Try.underlying5 (hval0 1 5 v1 (by rw [Try.params4]; rfl) rfl))
 subst e1
 obtain ⟨fn,hfn⟩:=Option.isSome_iff_exists.1 hereF
 have walk:=top ok hfn (w:=W) (cargs:=[v0,.int .u8 b1]) rfl (Va.c4 ok u0 u1) ⟨absV_W w0,(show Go.Ev.W _ (.int .u8 (b1:Int)) _ from rfl),trivial⟩
 refine walk.mono fun e W' ⟨he,bel⟩=>?_
 subst he
 have hk:=trodAll_below laid bel _ _ _ _ (fun t ht=>by
  have e:t=22∨t=5:=by simpa using ht
  rcases e with rfl | rfl
  all_goals exact ⟨by kernel_rfl,of_decide_eq_true (by kernel_rfl)⟩) hAk hlt
 exact ⟨_,rfl,_,_,_,[],_,[],hW',trodAll_mk1 (shut_bool Try.underlying4 _),by rw [Try.params4]; exact hk,rfl,bel.frame _,fun h=>by cases h⟩
theorem over:Rows.llClashRow.holds Try.pinned (OpenSpec.ofChange Rows.llClashSpec) :=
 OpenClaim.holds_of_wide 4 Try.f4 rfl rfl rfl rfl rfl rfl rfl ⟨rfl,rfl,rfl,rfl,rfl⟩ rfl rfl rfl rfl rfl (by kernel_rfl) Try.func4 (by kernel_rfl)
  (of_decide_eq_true (by kernel_rfl)) (by unfold Func.isWrapper; first | (rw [if_pos (by decide +kernel)]; kernel_rfl) | (rw [if_neg (by decide +kernel)]; exact ⟨rfl,rfl⟩))
  (fun os started H enc _=>lifted os started H enc)
end Va
theorem LlClash_holds:Rows.LlClashSaid:=Va.over
#print axioms LlClash_holds
end Go.Proofs.Ytibkijpnkmccpaa
