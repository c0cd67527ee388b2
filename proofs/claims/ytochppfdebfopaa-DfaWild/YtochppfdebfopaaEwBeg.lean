/- The tables are those of the program; what begins answers true. -/
import Derived.Test.YtochppfdebfopaaEwEnv
import Derived.Test.YtochppfdebfopaaEvFast4
set_option linter.unusedVariables false
namespace Go.Proofs.Ytochppfdebfopaa
open Go.Ev Go.Ew Go.RowKit
namespace Va
theorem tys : tysOk Try.prog tyL := by unfold tysOk; kernel_rfl
theorem mixed : Try.prog.follows .mixedOrders = true := by kernel_rfl
theorem own : ownKnob Try.prog.godebug = none := by kernel_rfl

theorem ext89 : Extern.find Try.f89 = some Extern.BytealgIndexByte.indexByte := by kernel_rfl
theorem ext89' : (Extern.findNext Try.f89).isSome = false := by kernel_rfl
theorem name89 : (Try.f89.name == "runtime.NumGoroutine") = false := by kernel_rfl
theorem body89 : Try.f89.body.isNone = true := by kernel_rfl
theorem at89 (s : ByteArray) (c : Int) (w : World) : (callFunc 89 #[.string s, .int .u8 c]).run Try.prog w = .ok (.value (.int .i64 (idxB s c))) w := by
  have h1 : Extern.findNext Try.f89 = none := by
    cases h : Extern.findNext Try.f89 with
    | none => rfl
    | some x => have := ext89'; rw [h] at this; cases this
  simp only [callFunc, Sem.run_bind, run_program, Result.andThen_ok, Try.func89, name89, body89, Bool.false_eq_true, if_false, if_true, run_mark, h1, ext89]
  have hc : Extern.BytealgIndexByte.indexByte #[.string s, .int .u8 c] = (do
      let b ← Extern.Bytes.bytesOf (.string s)
      let c ← Extern.Bytes.asByte (.int .u8 c)
      match (List.range b.size).find? fun i => b[i]! == c with
      | some i => pure (goInt i)
      | none => pure (goInt (-1))) := rfl
  rw [hc]
  simp only [Extern.Bytes.bytesOf, Extern.Bytes.asByte, pure_bind, idxB]
  cases (List.range s.size).find? fun i => s[i]! == c.toNat.toUInt8 <;> simp [goInt]

def fnB7 : List Nat := [7, 9, 10, 13, 19, 20, 21, 22, 23, 24, 29, 30, 31, 32, 33, 34, 35, 36, 37, 38, 39, 40, 41, 46, 47, 48, 49, 50, 51, 52, 53, 54, 55, 56, 58, 59, 60, 61, 63, 64, 65, 66, 69, 70, 71, 72, 73, 74, 76, 77, 78, 79, 80, 81, 82, 83, 84, 85, 86, 87, 88]
def xtB7 : List (Nat × Nat) := [(89, 3)]
theorem fnsB7 : (fnsOf Try.prog fnB7).all (fnOk (envOf Try.prog tyL fnB7 plL xtB7)) = true := by kernel_rfl
theorem okB7 : EnvOk (envOf Try.prog tyL fnB7 plL xtB7) := env_ok tys mixed fnsB7 (fun g hg => by simp [xtB7] at hg) (fun g hg => by
    have e : g = 89 := by simpa [xtB7] using hg
    subst e
    exact at89) (fun g hg => by simp [xtB7] at hg)
theorem hereB7 : (tget (envOf Try.prog tyL fnB7 plL xtB7).ff 7).isSome = true := by kernel_rfl
set_option maxRecDepth 100000 in
theorem runsB7 : callK (envOf Try.prog tyL fnB7 plL xtB7) 1000000 1000 7 [] ⟨.nil, 0⟩ kTrue = True := by kernel_rfl
theorem walkB7 (w : World) : Calls Try.prog 7 #[] w fun e w' => e = .returned (.bool true) ∧ Below w.heap.size w w' := by
  obtain ⟨fn, hfn⟩ := Option.isSome_iff_exists.1 hereB7
  exact law_fast okB7 hfn (by unfold unkU; omega) runsB7 w
theorem nameB7 : (Try.f7.name == "runtime.NumGoroutine") = false := by kernel_rfl
theorem bodyB7 : Try.f7.body.isNone = false := by kernel_rfl
theorem enterB7 (w : World) : (callFunc 7 #[]).run Try.prog w = .ok (.enter 7 #[]) w := by
  simp only [callFunc, Sem.run_bind, run_program, Result.andThen_ok, Try.func7, nameB7, bodyB7, Bool.false_eq_true, if_false, Sem.run_pure]

theorem fns : (fnsOf Try.prog fnL).all (fnOk (env Try.prog)) = true := by kernel_rfl
theorem ok : EnvOk (env Try.prog) := env_ok tys mixed fns (fun g hg => by simp [xtL] at hg) (fun g hg => by
    have e : g = 89 := by simpa [xtL] using hg
    subst e
    exact at89) (fun g hg => by
    have e : g = 7 := by simpa [xtL] using hg
    subst e
    exact fun w => ⟨enterB7 w, walkB7 w⟩)
end Va
end Go.Proofs.Ytochppfdebfopaa
