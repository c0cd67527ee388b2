/- The tables are those of the program; what begins answers true. -/
import Derived.Test.YtnngkkpgdjihgaaEwEnv
import Derived.Test.YtnngkkpgdjihgaaEvFast4
set_option linter.unusedVariables false
namespace Go.Proofs.Ytnngkkpgdjihgaa
open Go.Ev Go.Ew Go.RowKit
namespace Va
theorem tys : tysOk Try.prog tyL := by unfold tysOk; kernel_rfl
theorem mixed : Try.prog.follows .mixedOrders = true := by kernel_rfl
theorem own : ownKnob Try.prog.godebug = none := by kernel_rfl

theorem ext51 : Extern.find Try.f51 = some Extern.BytealgCompare.compare := by kernel_rfl
theorem ext51' : (Extern.findNext Try.f51).isSome = false := by kernel_rfl
theorem name51 : (Try.f51.name == "runtime.NumGoroutine") = false := by kernel_rfl
theorem body51 : Try.f51.body.isNone = true := by kernel_rfl
theorem at51 (a b : ByteArray) (w : World) : (callFunc 51 #[.string a, .string b]).run Try.prog w = .ok (.value (.int .i64 (Extern.BytealgCompare.cmp a b))) w := by
  have h1 : Extern.findNext Try.f51 = none := by
    cases h : Extern.findNext Try.f51 with
    | none => rfl
    | some x => have := ext51'; rw [h] at this; cases this
  simp only [callFunc, Sem.run_bind, run_program, Result.andThen_ok, Try.func51, name51, body51, Bool.false_eq_true, if_false, if_true, run_mark, h1, ext51]
  have hc : Extern.BytealgCompare.compare #[.string a, .string b] = (do pure (goInt (Extern.BytealgCompare.cmp (← Extern.Bytes.bytesOf (.string a)) (← Extern.Bytes.bytesOf (.string b))))) := rfl
  rw [hc]
  simp [Extern.Bytes.bytesOf, goInt]

def fnB8 : List Nat := [8, 13, 14, 16, 18, 21, 26, 27, 28, 29, 31, 32, 33, 34, 36, 37, 38, 39, 40, 41, 42, 43, 44, 45, 46, 47, 48, 49, 50]
def xtB8 : List (Nat × Nat) := [(51, 1)]
theorem fnsB8 : (fnsOf Try.prog fnB8).all (fnOk (envOf Try.prog tyL fnB8 plL xtB8)) = true := by kernel_rfl
theorem okB8 : EnvOk (envOf Try.prog tyL fnB8 plL xtB8) := env_ok tys mixed fnsB8 (fun g hg => by
    have e : g = 51 := by simpa [xtB8] using hg
    subst e
    exact at51) (fun g hg => by simp [xtB8] at hg) (fun g hg => by simp [xtB8] at hg)
theorem hereB8 : (tget (envOf Try.prog tyL fnB8 plL xtB8).ff 8).isSome = true := by kernel_rfl
set_option maxRecDepth 100000 in
theorem runsB8 : callK (envOf Try.prog tyL fnB8 plL xtB8) 1000000 1000 8 [] ⟨.nil, 0⟩ kTrue = True := by kernel_rfl
theorem walkB8 (w : World) : Calls Try.prog 8 #[] w fun e w' => e = .returned (.bool true) ∧ Below w.heap.size w w' := by
  obtain ⟨fn, hfn⟩ := Option.isSome_iff_exists.1 hereB8
  exact law_fast okB8 hfn (by unfold unkU; omega) runsB8 w
theorem nameB8 : (Try.f8.name == "runtime.NumGoroutine") = false := by kernel_rfl
theorem bodyB8 : Try.f8.body.isNone = false := by kernel_rfl
theorem enterB8 (w : World) : (callFunc 8 #[]).run Try.prog w = .ok (.enter 8 #[]) w := by
  simp only [callFunc, Sem.run_bind, run_program, Result.andThen_ok, Try.func8, nameB8, bodyB8, Bool.false_eq_true, if_false, Sem.run_pure]

theorem fns : (fnsOf Try.prog fnL).all (fnOk (env Try.prog)) = true := by kernel_rfl
theorem ok : EnvOk (env Try.prog) := env_ok tys mixed fns (fun g hg => by
    have e : g = 51 := by simpa [xtL] using hg
    subst e
    exact at51) (fun g hg => by simp [xtL] at hg) (fun g hg => by
    have e : g = 8 := by simpa [xtL] using hg
    subst e
    exact fun w => ⟨enterB8 w, walkB8 w⟩)
end Va
end Go.Proofs.Ytnngkkpgdjihgaa
