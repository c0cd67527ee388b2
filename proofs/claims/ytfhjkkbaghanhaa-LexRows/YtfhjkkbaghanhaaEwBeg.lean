import Derived.Test.YtfhjkkbaghanhaaEwEnv
import Derived.Test.YtfhjkkbaghanhaaEvTab
set_option linter.unusedVariables false
namespace Go.Proofs.Ytfhjkkbaghanhaa
open Go.Ev Go.Ew Go.RowKit
namespace Va
theorem tys:tysOk Try.prog tyL:=by unfold tysOk; kernel_rfl
theorem mixed:Try.prog.follows .mixedOrders=true:=by kernel_rfl
theorem own:ownKnob Try.prog.godebug=none:=by kernel_rfl
theorem ext99:Extern.find Try.f99=some Extern.BytealgIndexByte.indexByte:=by kernel_rfl
theorem ext99':(Extern.findNext Try.f99).isSome=false:=by kernel_rfl
theorem name99 : (Try.f99.name == "runtime.NumGoroutine") = false := by kernel_rfl
theorem body99:Try.f99.body.isNone=true:=by kernel_rfl
theorem at99 (s:ByteArray) (c:Int) (w:World):(callFunc 99 #[.string s,.int .u8 c]).run Try.prog w = .ok (.value (.int .i64 (idxB s c))) w:=by
 have h1:Extern.findNext Try.f99=none:=by
  cases h:Extern.findNext Try.f99 with
  | none=>rfl
  | some x=>have:=ext99'; rw [h] at this; cases this
 simp only [callFunc,Sem.run_bind,run_program,Result.andThen_ok,Try.func99,name99,body99,Bool.false_eq_true,if_false,if_true,run_mark,h1,ext99]
 have hc:Extern.BytealgIndexByte.indexByte #[.string s,.int .u8 c]=(do
  let b ← Extern.Bytes.bytesOf (.string s)
  let c ← Extern.Bytes.asByte (.int .u8 c)
  match (List.range b.size).find? fun i=>b[i]! == c with
  | some i=>pure (goInt i)
  | none=>pure (goInt (-1))):=rfl
 rw [hc]
 simp only [Extern.Bytes.bytesOf,Extern.Bytes.asByte,pure_bind,idxB]
 cases (List.range s.size).find? fun i=>s[i]! == c.toNat.toUInt8<;>simp [goInt]
def fnB7:List Nat:=[7,9,10,13,21,22,23,24,25,26,34,35,36,37,38,39,40,41,42,43,44,45,46,51,54,55,56,57,58,59,60,61,62,63,67,68,69,70,72,73,74,75,77,78,79,80,81,82,85,86,87,88,89,90,91,92,93,94,96,97,98]
def xtB7:List (Nat × Nat):=[(99,3)]
theorem fnsB7:(fnsOf Try.prog fnB7).all (fnOk (envOf Try.prog tyL fnB7 plL xtB7))=true:=by kernel_rfl
theorem okB7:EnvOk (envOf Try.prog tyL fnB7 plL xtB7):=env_ok tys mixed fnsB7 (fun g hg=>by simp [xtB7] at hg) (fun g hg=>by
 have e:g=99:=by simpa [xtB7] using hg
 subst e
 exact at99) (fun g hg=>by simp [xtB7] at hg)
theorem hereB7:(tget (envOf Try.prog tyL fnB7 plL xtB7).ff 7).isSome=true:=by kernel_rfl
set_option maxRecDepth 100000 in
theorem runsB7:saysTrue (callA (envOf Try.prog tyL fnB7 plL xtB7) (ev (envOf Try.prog tyL fnB7 plL xtB7) 100000) 7 [] ⟨.nil,0⟩)=true:=by kernel_rfl
theorem walkB7 (w:World):Calls Try.prog 7 #[] w fun e w'=>e = .returned (.bool true)∧Below w.heap.size w w':=by
 obtain ⟨fn,hfn⟩:=Option.isSome_iff_exists.1 hereB7
 exact law_true okB7 hfn (by unfold unkU; omega) runsB7 w
theorem nameB7 : (Try.f7.name == "runtime.NumGoroutine") = false := by kernel_rfl
theorem bodyB7:Try.f7.body.isNone=false:=by kernel_rfl
theorem enterB7 (w:World):(callFunc 7 #[]).run Try.prog w = .ok (.enter 7 #[]) w:=by
 simp only [callFunc,Sem.run_bind,run_program,Result.andThen_ok,Try.func7,nameB7,bodyB7,Bool.false_eq_true,if_false,Sem.run_pure]
def fnB15:List Nat:=[9,10,13,15,19,20,21,22,23,24,25,26,28,32,33,34,35,36,37,38,39,40,41,42,43,44,45,46,49,51,52,53,54,55,56,57,58,59,60,61,62,63,64,67,68,69,70,72,73,74,75,77,78,79,80,81,82,85,86,87,88,89,90,91,92,93,94,96,97,98]
def xtB15:List (Nat × Nat):=[(99,3)]
theorem fnsB15:(fnsOf Try.prog fnB15).all (fnOk (envOf Try.prog tyL fnB15 plL xtB15))=true:=by kernel_rfl
theorem okB15:EnvOk (envOf Try.prog tyL fnB15 plL xtB15):=env_ok tys mixed fnsB15 (fun g hg=>by simp [xtB15] at hg) (fun g hg=>by
 have e:g=99:=by simpa [xtB15] using hg
 subst e
 exact at99) (fun g hg=>by simp [xtB15] at hg)
theorem hereB15:(tget (envOf Try.prog tyL fnB15 plL xtB15).ff 15).isSome=true:=by kernel_rfl
set_option maxRecDepth 100000 in
theorem runsB15:saysTrue (callA (envOf Try.prog tyL fnB15 plL xtB15) (ev (envOf Try.prog tyL fnB15 plL xtB15) 100000) 15 [] ⟨.nil,0⟩)=true:=by kernel_rfl
theorem walkB15 (w:World):Calls Try.prog 15 #[] w fun e w'=>e = .returned (.bool true)∧Below w.heap.size w w':=by
 obtain ⟨fn,hfn⟩:=Option.isSome_iff_exists.1 hereB15
 exact law_true okB15 hfn (by unfold unkU; omega) runsB15 w
theorem nameB15 : (Try.f15.name == "runtime.NumGoroutine") = false := by kernel_rfl
theorem bodyB15:Try.f15.body.isNone=false:=by kernel_rfl
theorem enterB15 (w:World):(callFunc 15 #[]).run Try.prog w = .ok (.enter 15 #[]) w:=by
 simp only [callFunc,Sem.run_bind,run_program,Result.andThen_ok,Try.func15,nameB15,bodyB15,Bool.false_eq_true,if_false,Sem.run_pure]
theorem fns:(fnsOf Try.prog fnL).all (fnOk (env Try.prog))=true:=by kernel_rfl
theorem ok:EnvOk (env Try.prog):=env_ok tys mixed fns (fun g hg=>by simp [xtL] at hg) (fun g hg=>by
 have e:g=99:=by simpa [xtL] using hg
 subst e
 exact at99) (fun g hg=>by
 have e:g=7∨g=15:=by simpa [xtL] using hg
 rcases e with rfl | rfl
 ·exact fun w=>⟨enterB7 w,walkB7 w⟩
 ·exact fun w=>⟨enterB15 w,walkB15 w⟩)
end Va
end Go.Proofs.Ytfhjkkbaghanhaa
