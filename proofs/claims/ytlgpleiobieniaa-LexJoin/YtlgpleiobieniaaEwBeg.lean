import Derived.Test.YtlgpleiobieniaaEwEnv
import Derived.Test.YtlgpleiobieniaaEvTab
set_option linter.unusedVariables false
namespace Go.Proofs.Ytlgpleiobieniaa
open Go.Ev Go.Ew Go.RowKit
namespace Va
theorem tys:tysOk Try.prog tyL:=by unfold tysOk; kernel_rfl
theorem mixed:Try.prog.follows .mixedOrders=true:=by kernel_rfl
theorem own:ownKnob Try.prog.godebug=none:=by kernel_rfl
theorem ext102:Extern.find Try.f102=some Extern.BytealgIndexByte.indexByte:=by kernel_rfl
theorem ext102':(Extern.findNext Try.f102).isSome=false:=by kernel_rfl
theorem name102 : (Try.f102.name == "runtime.NumGoroutine") = false := by kernel_rfl
theorem body102:Try.f102.body.isNone=true:=by kernel_rfl
theorem at102 (s:ByteArray) (c:Int) (w:World):(callFunc 102 #[.string s,.int .u8 c]).run Try.prog w = .ok (.value (.int .i64 (idxB s c))) w:=by
 have h1:Extern.findNext Try.f102=none:=by
  cases h:Extern.findNext Try.f102 with
  | none=>rfl
  | some x=>have:=ext102'; rw [h] at this; cases this
 simp only [callFunc,Sem.run_bind,run_program,Result.andThen_ok,Try.func102,name102,body102,Bool.false_eq_true,if_false,if_true,run_mark,h1,ext102]
 have hc:Extern.BytealgIndexByte.indexByte #[.string s,.int .u8 c]=(do
  let b ← Extern.Bytes.bytesOf (.string s)
  let c ← Extern.Bytes.asByte (.int .u8 c)
  match (List.range b.size).find? fun i=>b[i]! == c with
  | some i=>pure (goInt i)
  | none=>pure (goInt (-1))):=rfl
 rw [hc]
 simp only [Extern.Bytes.bytesOf,Extern.Bytes.asByte,pure_bind,idxB]
 cases (List.range s.size).find? fun i=>s[i]! == c.toNat.toUInt8<;>simp [goInt]
def fnB10:List Nat:=[7,9,10,14,15,16,17,21,22,24,25,26,27,28,29,30,36,37,38,41,42,43,44,45,46,47,48,49,50,51,52,53,54,59,61,62,63,64,65,66,67,68,69,70,71,72,73,76,77,78,79,80,81,82,83,84,87,88,89,90,91,92,93,94,95,96,97,99,100,101]
def xtB10:List (Nat × Nat):=[(102,3)]
theorem fnsB10:(fnsOf Try.prog fnB10).all (fnOk (envOf Try.prog tyL fnB10 plL xtB10))=true:=by kernel_rfl
theorem okB10:EnvOk (envOf Try.prog tyL fnB10 plL xtB10):=env_ok tys mixed fnsB10 (fun g hg=>by simp [xtB10] at hg) (fun g hg=>by
 have e:g=102:=by simpa [xtB10] using hg
 subst e
 exact at102) (fun g hg=>by simp [xtB10] at hg)
theorem hereB10:(tget (envOf Try.prog tyL fnB10 plL xtB10).ff 10).isSome=true:=by kernel_rfl
set_option maxRecDepth 100000 in
theorem runsB10:saysTrue (callA (envOf Try.prog tyL fnB10 plL xtB10) (ev (envOf Try.prog tyL fnB10 plL xtB10) 100000) 10 [] ⟨.nil,0⟩)=true:=by kernel_rfl
theorem walkB10 (w:World):Calls Try.prog 10 #[] w fun e w'=>e = .returned (.bool true)∧Below w.heap.size w w':=by
 obtain ⟨fn,hfn⟩:=Option.isSome_iff_exists.1 hereB10
 exact law_true okB10 hfn (by unfold unkU; omega) runsB10 w
theorem nameB10 : (Try.f10.name == "runtime.NumGoroutine") = false := by kernel_rfl
theorem bodyB10:Try.f10.body.isNone=false:=by kernel_rfl
theorem enterB10 (w:World):(callFunc 10 #[]).run Try.prog w = .ok (.enter 10 #[]) w:=by
 simp only [callFunc,Sem.run_bind,run_program,Result.andThen_ok,Try.func10,nameB10,bodyB10,Bool.false_eq_true,if_false,Sem.run_pure]
def fnB12:List Nat:=[12,14,15,16,24,25,26,27,28,29,30,41,42,43,44,45,46,47,48,49,50,51,52,53,54,61,62,63,64,65,66,67,68,69,70,71,72,73,76,77,78,79,80,81,82,83,84,87,88,89,90,91,92,93,94,95,96,97,99,100,101]
def xtB12:List (Nat × Nat):=[(102,3)]
theorem fnsB12:(fnsOf Try.prog fnB12).all (fnOk (envOf Try.prog tyL fnB12 plL xtB12))=true:=by kernel_rfl
theorem okB12:EnvOk (envOf Try.prog tyL fnB12 plL xtB12):=env_ok tys mixed fnsB12 (fun g hg=>by simp [xtB12] at hg) (fun g hg=>by
 have e:g=102:=by simpa [xtB12] using hg
 subst e
 exact at102) (fun g hg=>by simp [xtB12] at hg)
theorem hereB12:(tget (envOf Try.prog tyL fnB12 plL xtB12).ff 12).isSome=true:=by kernel_rfl
set_option maxRecDepth 100000 in
theorem runsB12:saysTrue (callA (envOf Try.prog tyL fnB12 plL xtB12) (ev (envOf Try.prog tyL fnB12 plL xtB12) 100000) 12 [] ⟨.nil,0⟩)=true:=by kernel_rfl
theorem walkB12 (w:World):Calls Try.prog 12 #[] w fun e w'=>e = .returned (.bool true)∧Below w.heap.size w w':=by
 obtain ⟨fn,hfn⟩:=Option.isSome_iff_exists.1 hereB12
 exact law_true okB12 hfn (by unfold unkU; omega) runsB12 w
theorem nameB12 : (Try.f12.name == "runtime.NumGoroutine") = false := by kernel_rfl
theorem bodyB12:Try.f12.body.isNone=false:=by kernel_rfl
theorem enterB12 (w:World):(callFunc 12 #[]).run Try.prog w = .ok (.enter 12 #[]) w:=by
 simp only [callFunc,Sem.run_bind,run_program,Result.andThen_ok,Try.func12,nameB12,bodyB12,Bool.false_eq_true,if_false,Sem.run_pure]
theorem fns:(fnsOf Try.prog fnL).all (fnOk (env Try.prog))=true:=by kernel_rfl
theorem ok:EnvOk (env Try.prog):=env_ok tys mixed fns (fun g hg=>by simp [xtL] at hg) (fun g hg=>by
 have e:g=102:=by simpa [xtL] using hg
 subst e
 exact at102) (fun g hg=>by
 have e:g=10∨g=12:=by simpa [xtL] using hg
 rcases e with rfl | rfl
 ·exact fun w=>⟨enterB10 w,walkB10 w⟩
 ·exact fun w=>⟨enterB12 w,walkB12 w⟩)
end Va
end Go.Proofs.Ytlgpleiobieniaa
