/-
 The law GramAll returns true,whatever its arguments are and whatever lies in memory; nothing that was there is changed. No conditions.
 How: what each function on the law's road does is read off its code (the texts Ew..) and shown; that reading is proved right over named memory (the texts Ev..),in which the arguments' memory is known,to be read alone.
-/
import Derived.Test.YtdflpllfkengdaaRows
import Derived.Test.YtdflpllfkengdaaEwGm6
import Derived.WalkKit
import Derived.ProofKit
import Derived.OpenShut
import Derived.Below
namespace Go.Proofs.Ytdflpllfkengdaa
open Go.ChangeShapes Go.WideShapes Go.ChangeAt Go.RowKit Go.Ev Go.Ew
namespace Va
theorem laid:laidOutB Try.prog=true:=by kernel_rfl
theorem hereF:(tget (env Try.prog).ff 3).isSome=true:=by kernel_rfl
set_option maxRecDepth 100000 in
theorem lifted (os:Os) (started:os.Started) (H:Type) (enc:TypeId × Value→H) :
 ReturnsInHanded {} Try.checked os 3 .any (Rows.gramAllSpec.pre6 enc Try.prog Try.f3 Rows.gramAllRow.domain false) (Rows.gramAllSpec.post enc Try.prog Try.f3 false true false false):=by
 refine handed_sized (C:=Try.checked) own started (by kernel_rfl) Try.func3
  (ChangeSpec.witness6 (enc:=enc) (C:=Try.checked) false ⟨#[],#[.agg #[.slice none 0 0,.slice none 0 0,.slice none 0 0],.slice none 0 0,.int .u8 0,.int .i64 0,.string ⟨#[]⟩],[]⟩ 8 (by kernel_rfl) (by kernel_rfl) (by kernel_rfl) (by kernel_rfl)) ?_
 intro W base args ds gs before hval0 hW hwt
 have hW':=hW
 obtain ⟨p,q,hA0,hV,rfl,hfz,hnd⟩:=hW
 have hA:DataW.TrodAll enc Try.prog W 0 (fun _=>true) true Try.f3.params.toList args.toList ds p:=hA0
 rw [Try.params3] at hA
 obtain ⟨rfl,rfl⟩:=trodVars_none hV
 have hAk:=hA
 obtain ⟨v0,v1,v2,v3,v4,d0,d1,d2,d3,d4,p0,p1,p2,p3,p4,rfl,rfl,rfl,h0,h1,h2,h3,h4⟩:=trodAll_five hA
 have hlt:∀ x∈p0++p1++p2++p3++p4,x.block<W.heap.size:=fun x hx=>hW'.lt x (by simpa using hx)
 have hf:∀ ps:List MemPlace,(∀ x∈ps,x∈p0++p1++p2++p3++p4)→W.noneFrozen ps:=fun ps hs b o hm=>hfz b o (by simpa using hs _ hm)
 have hf0:W.noneFrozen p0:=(hf p0 fun x hx=>by simp [hx])
 have wt0:∀ x∈DataW.weights Try.prog 26 d0,x≤reachBytes:=fun x hx=>by
  have:=List.all_eq_true.1 hwt x (weights_each (j:=0) (by rw [Try.params3]; rfl) rfl x hx)
  simpa using this
 obtain ⟨g0,u0,y0,w0⟩:=arg_gram (rd_st3 Try.underlying26 (by kernel_rfl) ⟨rfl,rfl,rfl⟩ (rd_slice Try.underlying22 (by kernel_rfl) (rd_st3 Try.underlying34 (by kernel_rfl) ⟨rfl,rfl,rfl⟩ (rd_str Try.underlying9 (by kernel_rfl)) (rd_str Try.underlying9 (by kernel_rfl)) (rd_bool Try.underlying4 (by kernel_rfl))) (by decide) (of_decide_eq_true (by kernel_rfl)) hf0) (rd_slice Try.underlying23 (by kernel_rfl) (rd_st3 Try.underlying37 (by kernel_rfl) ⟨rfl,rfl,rfl⟩ (rd_str Try.underlying9 (by kernel_rfl)) (rd_slice Try.underlying35 (by kernel_rfl) (rd_str Try.underlying9 (by kernel_rfl)) (by decide) (of_decide_eq_true (by kernel_rfl)) hf0) (rd_slice Try.underlying35 (by kernel_rfl) (rd_str Try.underlying9 (by kernel_rfl)) (by decide) (of_decide_eq_true (by kernel_rfl)) hf0)) (by decide) (of_decide_eq_true (by kernel_rfl)) hf0) (rd_slice Try.underlying24 (by kernel_rfl) (rd_st3 Try.underlying41 (by kernel_rfl) ⟨rfl,rfl,rfl⟩ (rd_int Try.underlying3 (by kernel_rfl)) (rd_slice Try.underlying38 (by kernel_rfl) (rd_st2 Try.underlying44 (by kernel_rfl) ⟨rfl,rfl⟩ (rd_bool Try.underlying4 (by kernel_rfl)) (rd_int Try.underlying3 (by kernel_rfl))) (by decide) (of_decide_eq_true (by kernel_rfl)) hf0) (rd_any Try.underlying39 (by kernel_rfl) (of_decide_eq_true (by kernel_rfl)))) (by decide) (of_decide_eq_true (by kernel_rfl)) hf0)) h0 wt0 (okWide_struct Try.underlying26 (hval0 0 26 v0 (by rw [Try.params3]; rfl) rfl))
 have s1:=okWide_slice Try.underlying27 (hval0 1 27 v1 (by rw [Try.params3]; rfl) rfl)
 obtain ⟨a1,n1,c1,w1,u1⟩:=arg_u8 Try.underlying27 (by kernel_rfl) Try.underlying5 h1 (hf p1 fun x hx=>by simp [hx]) s1
 obtain ⟨b2,e2,u2⟩:=arg_byte Try.underlying5 h2 (okWide_int Try.underlying5 (hval0 2 5 v2 (by rw [Try.params3]; rfl) rfl))
 subst e2
 obtain ⟨b3,e3⟩:=okWide_int Try.underlying3 (hval0 3 3 v3 (by rw [Try.params3]; rfl) rfl)
 subst e3
 obtain ⟨s4,e4⟩:=okWide_string Try.underlying9 (hval0 4 9 v4 (by rw [Try.params3]; rfl) rfl)
 subst e4
 obtain ⟨fn,hfn⟩:=Option.isSome_iff_exists.1 hereF
 have walk:=top ok hfn (w:=W) (cargs:=[v0,v1,.int .u8 b2,.int .i64 b3,.string s4]) rfl (Va.c3 ok u0 y0 u1 u2) ⟨w0,absV_W w1,(show Go.Ev.W _ (.int .u8 (b2:Int)) _ from rfl),(show Go.Ev.W _ (.int .i64 b3) _ from rfl),(show Go.Ev.W _ (.string s4) _ from rfl),trivial⟩
 refine walk.mono fun e W' ⟨he,bel⟩=>?_
 subst he
 have hk:=trodAll_below laid bel _ _ _ _ (fun t ht=>by
  have e:t=26∨t=27∨t=5∨t=3∨t=9:=by simpa using ht
  rcases e with rfl | rfl | rfl | rfl | rfl
  all_goals exact ⟨by kernel_rfl,of_decide_eq_true (by kernel_rfl)⟩) hAk hlt
 exact ⟨_,rfl,_,_,_,[],_,[],hW',trodAll_mk1 (shut_bool Try.underlying4 _),by rw [Try.params3]; exact hk,rfl,bel.frame _,fun h=>by cases h⟩
theorem over:Rows.gramAllRow.holds Try.pinned (OpenSpec.ofChange Rows.gramAllSpec) :=
 OpenClaim.holds_of_wide 3 Try.f3 rfl rfl rfl rfl rfl rfl rfl ⟨rfl,rfl,rfl,rfl,rfl⟩ rfl rfl rfl rfl rfl (by kernel_rfl) Try.func3 (by kernel_rfl)
  (of_decide_eq_true (by kernel_rfl)) (by unfold Func.isWrapper; first | (rw [if_pos (by decide +kernel)]; kernel_rfl) | (rw [if_neg (by decide +kernel)]; exact ⟨rfl,rfl⟩))
  (fun os started H enc _=>lifted os started H enc)
end Va
theorem GramAll_holds:Rows.GramAllSaid:=Va.over
#print axioms GramAll_holds
end Go.Proofs.Ytdflpllfkengdaa
