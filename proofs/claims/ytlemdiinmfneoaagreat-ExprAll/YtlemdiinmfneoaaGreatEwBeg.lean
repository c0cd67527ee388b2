/- The tables are those of the program; what begins answers true. -/
import Derived.Test.YtlemdiinmfneoaaGreatEwEnv
import Derived.Test.YtlemdiinmfneoaaGreatEvTab
set_option linter.unusedVariables false
namespace Go.Proofs.YtlemdiinmfneoaaGreat
open Go.Ev Go.Ew Go.RowKit
namespace Va
theorem tys : tysOk Tryz.prog tyL := by unfold tysOk; kernel_rfl
theorem mixed : Tryz.prog.follows .mixedOrders = true := by kernel_rfl
theorem own : ownKnob Tryz.prog.godebug = none := by kernel_rfl

theorem ext122 : Extern.find Tryz.f122 = some Extern.BytealgCompare.compare := by kernel_rfl
theorem ext122' : (Extern.findNext Tryz.f122).isSome = false := by kernel_rfl
theorem name122 : (Tryz.f122.name == "runtime.NumGoroutine") = false := by kernel_rfl
theorem body122 : Tryz.f122.body.isNone = true := by kernel_rfl
theorem at122 (a b : ByteArray) (w : World) : (callFunc 122 #[.string a, .string b]).run Tryz.prog w = .ok (.value (.int .i64 (Extern.BytealgCompare.cmp a b))) w := by
  have h1 : Extern.findNext Tryz.f122 = none := by
    cases h : Extern.findNext Tryz.f122 with
    | none => rfl
    | some x => have := ext122'; rw [h] at this; cases this
  simp only [callFunc, Sem.run_bind, run_program, Result.andThen_ok, Tryz.func122, name122, body122, Bool.false_eq_true, if_false, if_true, run_mark, h1, ext122]
  have hc : Extern.BytealgCompare.compare #[.string a, .string b] = (do pure (goInt (Extern.BytealgCompare.cmp (← Extern.Bytes.bytesOf (.string a)) (← Extern.Bytes.bytesOf (.string b))))) := rfl
  rw [hc]
  simp [Extern.Bytes.bytesOf, goInt]

def fnB4 : List Nat := [4, 9, 11, 14, 20, 21, 22, 25, 34, 35, 38, 39, 40, 41, 42, 43, 44, 45, 52, 53, 54, 55, 56, 57, 58, 59, 60, 61, 62, 63, 64, 65, 66, 67, 68, 69, 70, 71, 72, 73, 74, 75, 76, 77, 78, 79, 80, 81, 82, 83, 84, 85, 86, 87, 88, 89, 90, 91, 92, 93, 94, 95, 96, 97, 98, 99, 100, 101, 102, 103, 104, 105, 106, 107, 108, 109, 110, 111, 112, 113, 114, 115, 116, 117, 118, 119, 120, 121]
def xtB4 : List (Nat × Nat) := [(122, 1)]
theorem fnsB4 : (fnsOf Tryz.prog fnB4).all (fnOk (envOf Tryz.prog tyL fnB4 plL xtB4)) = true := by kernel_rfl
theorem okB4 : EnvOk (envOf Tryz.prog tyL fnB4 plL xtB4) := env_ok tys mixed fnsB4 (fun g hg => by
    have e : g = 122 := by simpa [xtB4] using hg
    subst e
    exact at122) (fun g hg => by simp [xtB4] at hg) (fun g hg => by simp [xtB4] at hg)
theorem hereB4 : (tget (envOf Tryz.prog tyL fnB4 plL xtB4).ff 4).isSome = true := by kernel_rfl
set_option maxRecDepth 100000 in
theorem runsB4 : saysTrue (callA (envOf Tryz.prog tyL fnB4 plL xtB4) (ev (envOf Tryz.prog tyL fnB4 plL xtB4) 100000) 4 [] ⟨.nil, 0⟩) = true := by kernel_rfl
theorem walkB4 (w : World) : Calls Tryz.prog 4 #[] w fun e w' => e = .returned (.bool true) ∧ Below w.heap.size w w' := by
  obtain ⟨fn, hfn⟩ := Option.isSome_iff_exists.1 hereB4
  exact law_true okB4 hfn (by unfold unkU; omega) runsB4 w
theorem nameB4 : (Tryz.f4.name == "runtime.NumGoroutine") = false := by kernel_rfl
theorem bodyB4 : Tryz.f4.body.isNone = false := by kernel_rfl
theorem enterB4 (w : World) : (callFunc 4 #[]).run Tryz.prog w = .ok (.enter 4 #[]) w := by
  simp only [callFunc, Sem.run_bind, run_program, Result.andThen_ok, Tryz.func4, nameB4, bodyB4, Bool.false_eq_true, if_false, Sem.run_pure]

theorem fns : (fnsOf Tryz.prog fnL).all (fnOk (env Tryz.prog)) = true := by kernel_rfl
theorem ok : EnvOk (env Tryz.prog) := env_ok tys mixed fns (fun g hg => by
    have e : g = 122 := by simpa [xtL] using hg
    subst e
    exact at122) (fun g hg => by simp [xtL] at hg) (fun g hg => by
    have e : g = 4 := by simpa [xtL] using hg
    subst e
    exact fun w => ⟨enterB4 w, walkB4 w⟩)
end Va
end Go.Proofs.YtlemdiinmfneoaaGreat
