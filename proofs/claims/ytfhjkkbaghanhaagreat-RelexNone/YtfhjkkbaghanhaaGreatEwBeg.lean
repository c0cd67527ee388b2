import Derived.Test.YtfhjkkbaghanhaaGreatEwEnv
import Derived.Test.YtfhjkkbaghanhaaGreatEwSp
import Derived.Test.YtfhjkkbaghanhaaGreatEvTab
set_option linter.unusedVariables false
namespace Go.Proofs.YtfhjkkbaghanhaaGreat
open Go.Ev Go.Ew Go.RowKit
namespace Va
theorem tys:tysOk Tryz.prog tyL:=by unfold tysOk; kernel_rfl
theorem mixed:Tryz.prog.follows .mixedOrders=true:=by kernel_rfl
theorem own:ownKnob Tryz.prog.godebug=none:=by kernel_rfl
theorem ext111:Extern.find Tryz.f111=some Extern.BytealgIndexByte.indexByte:=by kernel_rfl
theorem ext111':(Extern.findNext Tryz.f111).isSome=false:=by kernel_rfl
theorem name111 : (Tryz.f111.name == "runtime.NumGoroutine") = false := by kernel_rfl
theorem body111:Tryz.f111.body.isNone=true:=by kernel_rfl
theorem at111 (s:ByteArray) (c:Int) (w:World):(callFunc 111 #[.string s,.int .u8 c]).run Tryz.prog w = .ok (.value (.int .i64 (idxB s c))) w:=by
 have h1:Extern.findNext Tryz.f111=none:=by
  cases h:Extern.findNext Tryz.f111 with
  | none=>rfl
  | some x=>have:=ext111'; rw [h] at this; cases this
 simp only [callFunc,Sem.run_bind,run_program,Result.andThen_ok,Tryz.func111,name111,body111,Bool.false_eq_true,if_false,if_true,run_mark,h1,ext111]
 have hc:Extern.BytealgIndexByte.indexByte #[.string s,.int .u8 c]=(do
  let b ← Extern.Bytes.bytesOf (.string s)
  let c ← Extern.Bytes.asByte (.int .u8 c)
  match (List.range b.size).find? fun i=>b[i]! == c with
  | some i=>pure (goInt i)
  | none=>pure (goInt (-1))):=rfl
 rw [hc]
 simp only [Extern.Bytes.bytesOf,Extern.Bytes.asByte,pure_bind,idxB]
 cases (List.range s.size).find? fun i=>s[i]! == c.toNat.toUInt8<;>simp [goInt]
def fnB5:List Nat:=[5,10,13,17,21,22,23,25,27,29,31,32,33,34,35,36,37,41,42,43,44,45,48,49,50,51,52,53,54,55,56,57,58,59,60,61,65,66,67,68,70,71,72,73,74,75,76,77,78,79,80,81,82,85,86,87,88,89,90,91,92,93,96,97,98,99,100,101,102,103,104,105,106,108,109,110]
def xtB5:List (Nat × Nat):=[(111,3),(26,4)]
theorem fnsB5:(fnsOf Tryz.prog fnB5).all (fnOk (envOf Tryz.prog tyL fnB5 plL xtB5))=true:=by kernel_rfl
theorem okB5:EnvOk (envOf Tryz.prog tyL fnB5 plL xtB5):=env_ok4 tys mixed fnsB5 (fun g hg=>by simp [xtB5] at hg) (fun g hg=>by
 have e:g=111:=by simpa [xtB5] using hg
 subst e
 exact at111) (fun g hg=>by
 have e:g=26:=by simpa [xtB5] using hg
 subst e
 exact splices) (fun g hg=>by simp [xtB5] at hg)
theorem hereB5:(tget (envOf Tryz.prog tyL fnB5 plL xtB5).ff 5).isSome=true:=by kernel_rfl
set_option maxRecDepth 100000 in
theorem runsB5:saysTrue (callA (envOf Tryz.prog tyL fnB5 plL xtB5) (ev (envOf Tryz.prog tyL fnB5 plL xtB5) 100000) 5 [] ⟨.nil,0⟩)=true:=by kernel_rfl
theorem walkB5 (w:World):Calls Tryz.prog 5 #[] w fun e w'=>e = .returned (.bool true)∧Below w.heap.size w w':=by
 obtain ⟨fn,hfn⟩:=Option.isSome_iff_exists.1 hereB5
 exact law_true okB5 hfn (by unfold unkU; omega) runsB5 w
theorem nameB5 : (Tryz.f5.name == "runtime.NumGoroutine") = false := by kernel_rfl
theorem bodyB5:Tryz.f5.body.isNone=false:=by kernel_rfl
theorem enterB5 (w:World):(callFunc 5 #[]).run Tryz.prog w = .ok (.enter 5 #[]) w:=by
 simp only [callFunc,Sem.run_bind,run_program,Result.andThen_ok,Tryz.func5,nameB5,bodyB5,Bool.false_eq_true,if_false,Sem.run_pure]
theorem fns:(fnsOf Tryz.prog fnL).all (fnOk (env Tryz.prog))=true:=by kernel_rfl
theorem ok:EnvOk (env Tryz.prog):=env_ok4 tys mixed fns (fun g hg=>by simp [xtL] at hg) (fun g hg=>by
 have e:g=111:=by simpa [xtL] using hg
 subst e
 exact at111) (fun g hg=>by
 have e:g=26:=by simpa [xtL] using hg
 subst e
 exact splices) (fun g hg=>by
 have e:g=5:=by simpa [xtL] using hg
 subst e
 exact fun w=>⟨enterB5 w,walkB5 w⟩)
end Va
end Go.Proofs.YtfhjkkbaghanhaaGreat
