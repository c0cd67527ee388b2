/- The tables are those of the program; what begins answers true. -/
import Derived.Test.YtpdabjimdfifnaaGreatEwEnv
import Derived.Test.YtpdabjimdfifnaaGreatEvFast4
set_option linter.unusedVariables false
namespace Go.Proofs.YtpdabjimdfifnaaGreat
open Go.Ev Go.Ew Go.RowKit
namespace Va
theorem tys : tysOk Tryz.prog tyL := by unfold tysOk; kernel_rfl
theorem mixed : Tryz.prog.follows .mixedOrders = true := by kernel_rfl
theorem own : ownKnob Tryz.prog.godebug = none := by kernel_rfl

theorem ext112 : Extern.find Tryz.f112 = some Extern.BytealgCompare.compare := by kernel_rfl
theorem ext112' : (Extern.findNext Tryz.f112).isSome = false := by kernel_rfl
theorem name112 : (Tryz.f112.name == "runtime.NumGoroutine") = false := by kernel_rfl
theorem body112 : Tryz.f112.body.isNone = true := by kernel_rfl
theorem at112 (a b : ByteArray) (w : World) : (callFunc 112 #[.string a, .string b]).run Tryz.prog w = .ok (.value (.int .i64 (Extern.BytealgCompare.cmp a b))) w := by
  have h1 : Extern.findNext Tryz.f112 = none := by
    cases h : Extern.findNext Tryz.f112 with
    | none => rfl
    | some x => have := ext112'; rw [h] at this; cases this
  simp only [callFunc, Sem.run_bind, run_program, Result.andThen_ok, Tryz.func112, name112, body112, Bool.false_eq_true, if_false, if_true, run_mark, h1, ext112]
  have hc : Extern.BytealgCompare.compare #[.string a, .string b] = (do pure (goInt (Extern.BytealgCompare.cmp (← Extern.Bytes.bytesOf (.string a)) (← Extern.Bytes.bytesOf (.string b))))) := rfl
  rw [hc]
  simp [Extern.Bytes.bytesOf, goInt]

def fnB6 : List Nat := [6, 10, 13, 16, 20, 23, 24, 26, 30, 31, 32, 33, 34, 35, 36, 37, 38, 40, 42, 43, 44, 45, 46, 47, 48, 49, 50, 51, 52, 53, 54, 55, 56, 57, 58, 59, 60, 61, 62, 63, 64, 65, 66, 67, 68, 69, 70, 71, 72, 73, 74, 75, 76, 77, 78, 79, 80, 81, 82, 83, 84, 85, 86, 87, 88, 89, 90, 91, 92, 93, 94, 95, 96, 97, 98, 99, 100, 101, 102, 103, 104, 105, 106, 107, 108, 109, 110, 111]
def xtB6 : List (Nat × Nat) := [(112, 1)]
theorem fnsB6 : (fnsOf Tryz.prog fnB6).all (fnOk (envOf Tryz.prog tyL fnB6 plL xtB6)) = true := by kernel_rfl
theorem okB6 : EnvOk (envOf Tryz.prog tyL fnB6 plL xtB6) := env_ok tys mixed fnsB6 (fun g hg => by
    have e : g = 112 := by simpa [xtB6] using hg
    subst e
    exact at112) (fun g hg => by simp [xtB6] at hg) (fun g hg => by simp [xtB6] at hg)
theorem hereB6 : (tget (envOf Tryz.prog tyL fnB6 plL xtB6).ff 6).isSome = true := by kernel_rfl
set_option maxRecDepth 100000 in
theorem runsB6 : callK (envOf Tryz.prog tyL fnB6 plL xtB6) 1000000 1000 6 [] ⟨.nil, 0⟩ kTrue = True := by kernel_rfl
theorem walkB6 (w : World) : Calls Tryz.prog 6 #[] w fun e w' => e = .returned (.bool true) ∧ Below w.heap.size w w' := by
  obtain ⟨fn, hfn⟩ := Option.isSome_iff_exists.1 hereB6
  exact law_fast okB6 hfn (by unfold unkU; omega) runsB6 w
theorem nameB6 : (Tryz.f6.name == "runtime.NumGoroutine") = false := by kernel_rfl
theorem bodyB6 : Tryz.f6.body.isNone = false := by kernel_rfl
theorem enterB6 (w : World) : (callFunc 6 #[]).run Tryz.prog w = .ok (.enter 6 #[]) w := by
  simp only [callFunc, Sem.run_bind, run_program, Result.andThen_ok, Tryz.func6, nameB6, bodyB6, Bool.false_eq_true, if_false, Sem.run_pure]

theorem fns : (fnsOf Tryz.prog fnL).all (fnOk (env Tryz.prog)) = true := by kernel_rfl
theorem ok : EnvOk (env Tryz.prog) := env_ok tys mixed fns (fun g hg => by
    have e : g = 112 := by simpa [xtL] using hg
    subst e
    exact at112) (fun g hg => by simp [xtL] at hg) (fun g hg => by
    have e : g = 6 := by simpa [xtL] using hg
    subst e
    exact fun w => ⟨enterB6 w, walkB6 w⟩)
end Va
end Go.Proofs.YtpdabjimdfifnaaGreat
