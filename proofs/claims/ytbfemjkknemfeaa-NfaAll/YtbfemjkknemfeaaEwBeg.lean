import Derived.Test.YtbfemjkknemfeaaEwEnv
import Derived.Test.YtbfemjkknemfeaaEvTab
set_option linter.unusedVariables false
namespace Go.Proofs.Ytbfemjkknemfeaa
open Go.Ev Go.Ew Go.RowKit
namespace Va
theorem tys : tysOk Try.prog tyL := by unfold tysOk; kernel_rfl
theorem mixed : Try.prog.follows .mixedOrders = true := by kernel_rfl
theorem own : ownKnob Try.prog.godebug = none := by kernel_rfl

theorem ext112 : Extern.find Try.f112 = some Extern.BytealgIndexByte.indexByte := by kernel_rfl
theorem ext112' : (Extern.findNext Try.f112).isSome = false := by kernel_rfl
theorem name112 : (Try.f112.name == "runtime.NumGoroutine") = false := by kernel_rfl
theorem body112 : Try.f112.body.isNone = true := by kernel_rfl
theorem at112 (s : ByteArray) (c : Int) (w : World) : (callFunc 112 #[.string s, .int .u8 c]).run Try.prog w = .ok (.value (.int .i64 (idxB s c))) w := by
  have h1 : Extern.findNext Try.f112 = none := by
    cases h : Extern.findNext Try.f112 with
    | none => rfl
    | some x => have := ext112'; rw [h] at this; cases this
  simp only [callFunc, Sem.run_bind, run_program, Result.andThen_ok, Try.func112, name112, body112, Bool.false_eq_true, if_false, if_true, run_mark, h1, ext112]
  have hc : Extern.BytealgIndexByte.indexByte #[.string s, .int .u8 c] = (do
      let b ← Extern.Bytes.bytesOf (.string s)
      let c ← Extern.Bytes.asByte (.int .u8 c)
      match (List.range b.size).find? fun i => b[i]! == c with
      | some i => pure (goInt i)
      | none => pure (goInt (-1))) := rfl
  rw [hc]
  simp only [Extern.Bytes.bytesOf, Extern.Bytes.asByte, pure_bind, idxB]
  cases (List.range s.size).find? fun i => s[i]! == c.toNat.toUInt8 <;> simp [goInt]

def fnB9 : List Nat := [9, 11, 13, 25, 26, 27, 28, 29, 30, 31, 32, 42, 43, 44, 45, 46, 47, 48, 49, 50, 63, 66, 67, 68, 69, 70, 71, 72, 80, 81, 82, 83, 85, 86, 87, 88, 90, 91, 92, 93, 94, 95, 98, 99, 100, 101, 102, 103, 104, 105, 106, 107, 109, 110, 111]
def xtB9 : List (Nat × Nat) := [(112, 3)]
theorem fnsB9 : (fnsOf Try.prog fnB9).all (fnOk (envOf Try.prog tyL fnB9 plL xtB9)) = true := by kernel_rfl
theorem okB9 : EnvOk (envOf Try.prog tyL fnB9 plL xtB9) := env_ok tys mixed fnsB9 (fun g hg => by simp [xtB9] at hg) (fun g hg => by
    have e : g = 112 := by simpa [xtB9] using hg
    subst e
    exact at112) (fun g hg => by simp [xtB9] at hg)
theorem hereB9 : (tget (envOf Try.prog tyL fnB9 plL xtB9).ff 9).isSome = true := by kernel_rfl
set_option maxRecDepth 100000 in
theorem runsB9 : saysTrue (callA (envOf Try.prog tyL fnB9 plL xtB9) (ev (envOf Try.prog tyL fnB9 plL xtB9) 100000) 9 [] ⟨.nil, 0⟩) = true := by kernel_rfl
theorem walkB9 (w : World) : Calls Try.prog 9 #[] w fun e w' => e = .returned (.bool true) ∧ Below w.heap.size w w' := by
  obtain ⟨fn, hfn⟩ := Option.isSome_iff_exists.1 hereB9
  exact law_true okB9 hfn (by unfold unkU; omega) runsB9 w
theorem nameB9 : (Try.f9.name == "runtime.NumGoroutine") = false := by kernel_rfl
theorem bodyB9 : Try.f9.body.isNone = false := by kernel_rfl
theorem enterB9 (w : World) : (callFunc 9 #[]).run Try.prog w = .ok (.enter 9 #[]) w := by
  simp only [callFunc, Sem.run_bind, run_program, Result.andThen_ok, Try.func9, nameB9, bodyB9, Bool.false_eq_true, if_false, Sem.run_pure]

def fnB15 : List Nat := [11, 15, 16, 18, 25, 26, 27, 28, 34, 35, 42, 43, 44, 45, 46, 53, 54, 55, 56, 57, 58, 59, 60, 63, 66, 67, 68, 69, 70, 71, 73, 74, 75, 76, 80, 81, 82, 83, 85, 86, 87, 88, 90, 91, 92, 93, 94, 95, 98, 99, 100, 101, 102, 103, 104, 105, 106, 107, 109, 110, 111]
def xtB15 : List (Nat × Nat) := [(112, 3)]
theorem fnsB15 : (fnsOf Try.prog fnB15).all (fnOk (envOf Try.prog tyL fnB15 plL xtB15)) = true := by kernel_rfl
theorem okB15 : EnvOk (envOf Try.prog tyL fnB15 plL xtB15) := env_ok tys mixed fnsB15 (fun g hg => by simp [xtB15] at hg) (fun g hg => by
    have e : g = 112 := by simpa [xtB15] using hg
    subst e
    exact at112) (fun g hg => by simp [xtB15] at hg)
theorem hereB15 : (tget (envOf Try.prog tyL fnB15 plL xtB15).ff 15).isSome = true := by kernel_rfl
set_option maxRecDepth 100000 in
theorem runsB15 : saysTrue (callA (envOf Try.prog tyL fnB15 plL xtB15) (ev (envOf Try.prog tyL fnB15 plL xtB15) 100000) 15 [] ⟨.nil, 0⟩) = true := by kernel_rfl
theorem walkB15 (w : World) : Calls Try.prog 15 #[] w fun e w' => e = .returned (.bool true) ∧ Below w.heap.size w w' := by
  obtain ⟨fn, hfn⟩ := Option.isSome_iff_exists.1 hereB15
  exact law_true okB15 hfn (by unfold unkU; omega) runsB15 w
theorem nameB15 : (Try.f15.name == "runtime.NumGoroutine") = false := by kernel_rfl
theorem bodyB15 : Try.f15.body.isNone = false := by kernel_rfl
theorem enterB15 (w : World) : (callFunc 15 #[]).run Try.prog w = .ok (.enter 15 #[]) w := by
  simp only [callFunc, Sem.run_bind, run_program, Result.andThen_ok, Try.func15, nameB15, bodyB15, Bool.false_eq_true, if_false, Sem.run_pure]

def fnB19 : List Nat := [11, 16, 18, 19, 23, 24, 25, 26, 27, 28, 34, 35, 36, 40, 41, 42, 43, 44, 45, 46, 53, 54, 55, 56, 57, 58, 59, 60, 61, 63, 64, 65, 66, 67, 68, 69, 70, 71, 73, 74, 75, 76, 77, 80, 81, 82, 83, 85, 86, 87, 88, 90, 91, 92, 93, 94, 95, 98, 99, 100, 101, 102, 103, 104, 105, 106, 107, 109, 110, 111]
def xtB19 : List (Nat × Nat) := [(112, 3)]
theorem fnsB19 : (fnsOf Try.prog fnB19).all (fnOk (envOf Try.prog tyL fnB19 plL xtB19)) = true := by kernel_rfl
theorem okB19 : EnvOk (envOf Try.prog tyL fnB19 plL xtB19) := env_ok tys mixed fnsB19 (fun g hg => by simp [xtB19] at hg) (fun g hg => by
    have e : g = 112 := by simpa [xtB19] using hg
    subst e
    exact at112) (fun g hg => by simp [xtB19] at hg)
theorem hereB19 : (tget (envOf Try.prog tyL fnB19 plL xtB19).ff 19).isSome = true := by kernel_rfl
set_option maxRecDepth 100000 in
theorem runsB19 : saysTrue (callA (envOf Try.prog tyL fnB19 plL xtB19) (ev (envOf Try.prog tyL fnB19 plL xtB19) 100000) 19 [] ⟨.nil, 0⟩) = true := by kernel_rfl
theorem walkB19 (w : World) : Calls Try.prog 19 #[] w fun e w' => e = .returned (.bool true) ∧ Below w.heap.size w w' := by
  obtain ⟨fn, hfn⟩ := Option.isSome_iff_exists.1 hereB19
  exact law_true okB19 hfn (by unfold unkU; omega) runsB19 w
theorem nameB19 : (Try.f19.name == "runtime.NumGoroutine") = false := by kernel_rfl
theorem bodyB19 : Try.f19.body.isNone = false := by kernel_rfl
theorem enterB19 (w : World) : (callFunc 19 #[]).run Try.prog w = .ok (.enter 19 #[]) w := by
  simp only [callFunc, Sem.run_bind, run_program, Result.andThen_ok, Try.func19, nameB19, bodyB19, Bool.false_eq_true, if_false, Sem.run_pure]

theorem fns : (fnsOf Try.prog fnL).all (fnOk (env Try.prog)) = true := by kernel_rfl
theorem ok : EnvOk (env Try.prog) := env_ok tys mixed fns (fun g hg => by simp [xtL] at hg) (fun g hg => by
    have e : g = 112 := by simpa [xtL] using hg
    subst e
    exact at112) (fun g hg => by
    have e : g = 9 ∨ g = 15 ∨ g = 19 := by simpa [xtL] using hg
    rcases e with rfl | rfl | rfl
    · exact fun w => ⟨enterB9 w, walkB9 w⟩
    · exact fun w => ⟨enterB15 w, walkB15 w⟩
    · exact fun w => ⟨enterB19 w, walkB19 w⟩)
end Va
end Go.Proofs.Ytbfemjkknemfeaa
