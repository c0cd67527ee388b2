/- The tables are those of the program; what begins answers true. -/
import Derived.Test.YtpdabjimdfifnaaEwEnv
import Derived.Test.YtpdabjimdfifnaaEvFast4
set_option linter.unusedVariables false
namespace Go.Proofs.Ytpdabjimdfifnaa
open Go.Ev Go.Ew Go.RowKit
namespace Va
theorem tys : tysOk Try.prog tyL := by unfold tysOk; kernel_rfl
theorem mixed : Try.prog.follows .mixedOrders = true := by kernel_rfl
theorem own : ownKnob Try.prog.godebug = none := by kernel_rfl

theorem ext101 : Extern.find Try.f101 = some Extern.BytealgCompare.compare := by kernel_rfl
theorem ext101' : (Extern.findNext Try.f101).isSome = false := by kernel_rfl
theorem name101 : (Try.f101.name == "runtime.NumGoroutine") = false := by kernel_rfl
theorem body101 : Try.f101.body.isNone = true := by kernel_rfl
theorem at101 (a b : ByteArray) (w : World) : (callFunc 101 #[.string a, .string b]).run Try.prog w = .ok (.value (.int .i64 (Extern.BytealgCompare.cmp a b))) w := by
  have h1 : Extern.findNext Try.f101 = none := by
    cases h : Extern.findNext Try.f101 with
    | none => rfl
    | some x => have := ext101'; rw [h] at this; cases this
  simp only [callFunc, Sem.run_bind, run_program, Result.andThen_ok, Try.func101, name101, body101, Bool.false_eq_true, if_false, if_true, run_mark, h1, ext101]
  have hc : Extern.BytealgCompare.compare #[.string a, .string b] = (do pure (goInt (Extern.BytealgCompare.cmp (← Extern.Bytes.bytesOf (.string a)) (← Extern.Bytes.bytesOf (.string b))))) := rfl
  rw [hc]
  simp [Extern.Bytes.bytesOf, goInt]

def fnB6 : List Nat := [6, 9, 12, 13, 14, 17, 18, 19, 20, 21, 22, 23, 24, 25, 26, 27, 28, 30, 31, 32, 33, 34, 35, 36, 37, 38, 39, 40, 41, 42, 43, 44, 45, 46, 47, 48, 49, 50, 51, 52, 53, 54, 55, 56, 57, 58, 59, 60, 61, 62, 63, 64, 65, 66, 67, 68, 69, 70, 71, 72, 73, 74, 75, 76, 77, 78, 79, 80, 81, 82, 83, 84, 85, 86, 87, 88, 89, 90, 91, 92, 93, 94, 95, 96, 97, 98, 99, 100]
def xtB6 : List (Nat × Nat) := [(101, 1)]
theorem fnsB6 : (fnsOf Try.prog fnB6).all (fnOk (envOf Try.prog tyL fnB6 plL xtB6)) = true := by kernel_rfl
theorem okB6 : EnvOk (envOf Try.prog tyL fnB6 plL xtB6) := env_ok tys mixed fnsB6 (fun g hg => by
    have e : g = 101 := by simpa [xtB6] using hg
    subst e
    exact at101) (fun g hg => by simp [xtB6] at hg) (fun g hg => by simp [xtB6] at hg)
theorem hereB6 : (tget (envOf Try.prog tyL fnB6 plL xtB6).ff 6).isSome = true := by kernel_rfl
set_option maxRecDepth 100000 in
theorem runsB6 : callK (envOf Try.prog tyL fnB6 plL xtB6) 1000000 1000 6 [] ⟨.nil, 0⟩ kTrue = True := by kernel_rfl
theorem walkB6 (w : World) : Calls Try.prog 6 #[] w fun e w' => e = .returned (.bool true) ∧ Below w.heap.size w w' := by
  obtain ⟨fn, hfn⟩ := Option.isSome_iff_exists.1 hereB6
  exact law_fast okB6 hfn (by unfold unkU; omega) runsB6 w
theorem nameB6 : (Try.f6.name == "runtime.NumGoroutine") = false := by kernel_rfl
theorem bodyB6 : Try.f6.body.isNone = false := by kernel_rfl
theorem enterB6 (w : World) : (callFunc 6 #[]).run Try.prog w = .ok (.enter 6 #[]) w := by
  simp only [callFunc, Sem.run_bind, run_program, Result.andThen_ok, Try.func6, nameB6, bodyB6, Bool.false_eq_true, if_false, Sem.run_pure]

theorem fns : (fnsOf Try.prog fnL).all (fnOk (env Try.prog)) = true := by kernel_rfl
theorem ok : EnvOk (env Try.prog) := env_ok tys mixed fns (fun g hg => by
    have e : g = 101 := by simpa [xtL] using hg
    subst e
    exact at101) (fun g hg => by simp [xtL] at hg) (fun g hg => by
    have e : g = 6 := by simpa [xtL] using hg
    subst e
    exact fun w => ⟨enterB6 w, walkB6 w⟩)
end Va
end Go.Proofs.Ytpdabjimdfifnaa
