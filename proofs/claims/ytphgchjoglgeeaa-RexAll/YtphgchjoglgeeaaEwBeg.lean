/- The tables are those of the program; what begins answers true. -/
import Derived.Test.YtphgchjoglgeeaaEwEnv
import Derived.Test.YtphgchjoglgeeaaEvTab
set_option linter.unusedVariables false
namespace Go.Proofs.Ytphgchjoglgeeaa
open Go.Ev Go.Ew Go.RowKit
namespace Va
theorem tys : tysOk Try.prog tyL := by unfold tysOk; kernel_rfl
theorem mixed : Try.prog.follows .mixedOrders = true := by kernel_rfl
theorem own : ownKnob Try.prog.godebug = none := by kernel_rfl

theorem ext43 : Extern.find Try.f43 = some Extern.BytealgIndexByte.indexByte := by kernel_rfl
theorem ext43' : (Extern.findNext Try.f43).isSome = false := by kernel_rfl
theorem name43 : (Try.f43.name == "runtime.NumGoroutine") = false := by kernel_rfl
theorem body43 : Try.f43.body.isNone = true := by kernel_rfl
theorem at43 (s : ByteArray) (c : Int) (w : World) : (callFunc 43 #[.string s, .int .u8 c]).run Try.prog w = .ok (.value (.int .i64 (idxB s c))) w := by
  have h1 : Extern.findNext Try.f43 = none := by
    cases h : Extern.findNext Try.f43 with
    | none => rfl
    | some x => have := ext43'; rw [h] at this; cases this
  simp only [callFunc, Sem.run_bind, run_program, Result.andThen_ok, Try.func43, name43, body43, Bool.false_eq_true, if_false, if_true, run_mark, h1, ext43]
  have hc : Extern.BytealgIndexByte.indexByte #[.string s, .int .u8 c] = (do
      let b ← Extern.Bytes.bytesOf (.string s)
      let c ← Extern.Bytes.asByte (.int .u8 c)
      match (List.range b.size).find? fun i => b[i]! == c with
      | some i => pure (goInt i)
      | none => pure (goInt (-1))) := rfl
  rw [hc]
  simp only [Extern.Bytes.bytesOf, Extern.Bytes.asByte, pure_bind, idxB]
  cases (List.range s.size).find? fun i => s[i]! == c.toNat.toUInt8 <;> simp [goInt]

def fnB6 : List Nat := [6, 9, 13, 15, 16, 17, 20, 21, 22, 23, 24, 25, 27, 28, 29, 30, 31, 32, 33, 34, 35, 36, 38, 39, 40]
def xtB6 : List (Nat × Nat) := [(43, 3)]
theorem fnsB6 : (fnsOf Try.prog fnB6).all (fnOk (envOf Try.prog tyL fnB6 plL xtB6)) = true := by kernel_rfl
theorem okB6 : EnvOk (envOf Try.prog tyL fnB6 plL xtB6) := env_ok tys mixed fnsB6 (fun g hg => by simp [xtB6] at hg) (fun g hg => by
    have e : g = 43 := by simpa [xtB6] using hg
    subst e
    exact at43) (fun g hg => by simp [xtB6] at hg)
theorem hereB6 : (tget (envOf Try.prog tyL fnB6 plL xtB6).ff 6).isSome = true := by kernel_rfl
set_option maxRecDepth 100000 in
theorem runsB6 : saysTrue (callA (envOf Try.prog tyL fnB6 plL xtB6) (ev (envOf Try.prog tyL fnB6 plL xtB6) 100000) 6 [] ⟨.nil, 0⟩) = true := by kernel_rfl
theorem walkB6 (w : World) : Calls Try.prog 6 #[] w fun e w' => e = .returned (.bool true) ∧ Below w.heap.size w w' := by
  obtain ⟨fn, hfn⟩ := Option.isSome_iff_exists.1 hereB6
  exact law_true okB6 hfn (by unfold unkU; omega) runsB6 w
theorem nameB6 : (Try.f6.name == "runtime.NumGoroutine") = false := by kernel_rfl
theorem bodyB6 : Try.f6.body.isNone = false := by kernel_rfl
theorem enterB6 (w : World) : (callFunc 6 #[]).run Try.prog w = .ok (.enter 6 #[]) w := by
  simp only [callFunc, Sem.run_bind, run_program, Result.andThen_ok, Try.func6, nameB6, bodyB6, Bool.false_eq_true, if_false, Sem.run_pure]

theorem fns : (fnsOf Try.prog fnL).all (fnOk (env Try.prog)) = true := by kernel_rfl
theorem ok : EnvOk (env Try.prog) := env_ok tys mixed fns (fun g hg => by simp [xtL] at hg) (fun g hg => by
    have e : g = 43 := by simpa [xtL] using hg
    subst e
    exact at43) (fun g hg => by
    have e : g = 6 := by simpa [xtL] using hg
    subst e
    exact fun w => ⟨enterB6 w, walkB6 w⟩)
end Va
end Go.Proofs.Ytphgchjoglgeeaa
