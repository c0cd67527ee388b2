/-
  The law RexForms returns true, in whatever world it is called; nothing that was there is changed. No conditions.
  How: the call is reckoned by an evaluator over named memory (the texts Ev..), which is proved right for every world, every order that is left open and every capacity; the kernel runs it.
-/
import Derived.Test.YtcdohkpfhgbjnaaRows
import Derived.Test.YtcdohkpfhgbjnaaEvTab
import Derived.Test.YtcdohkpfhgbjnaaEvFast4
import Derived.WalkKit
import Derived.ProofKit
import Derived.OpenShut
import Derived.Below
namespace Go.Proofs.Ytcdohkpfhgbjnaa
open Go.ChangeShapes Go.WideShapes Go.ChangeAt Go.RowKit Go.Ev
namespace Forms
def tyL : List (Nat × TI) := [
  (1, ⟨1, 8, false, 8, 0, 0, [], [.nilFunc]⟩),
  (2, ⟨1, 8, false, 5, 0, 0, [], [.int .i64 0]⟩),
  (3, ⟨1, 8, false, 5, 0, 0, [], [.int .i64 0]⟩),
  (4, ⟨1, 1, false, 9, 0, 0, [], [.bool false]⟩),
  (5, ⟨1, 1, false, 6, 0, 0, [], [.int .u8 0]⟩),
  (6, ⟨1, 1, false, 6, 0, 0, [], [.int .u8 0]⟩),
  (7, ⟨4, 24, true, 3, 0, 0, [(0, 1), (1, 1), (2, 1), (3, 1)], [.int .i64 0, .int .i64 0, .bool false, .int .u8 0]⟩),
  (8, ⟨4, 24, true, 3, 0, 0, [(0, 1), (1, 1), (2, 1), (3, 1)], [.int .i64 0, .int .i64 0, .bool false, .int .u8 0]⟩),
  (9, ⟨1, 16, false, 4, 0, 0, [], [.string ⟨#[]⟩]⟩),
  (10, ⟨1, 16, false, 4, 0, 0, [], [.string ⟨#[]⟩]⟩),
  (11, ⟨1, 16, false, 4, 0, 0, [], [.string ⟨#[]⟩]⟩),
  (12, ⟨1, 8, false, 5, 0, 0, [], [.int .u64 0]⟩),
  (13, ⟨2, 24, true, 3, 0, 0, [(0, 1), (1, 1)], [.string ⟨#[]⟩, .int .u64 0]⟩),
  (14, ⟨2, 24, true, 3, 0, 0, [(0, 1), (1, 1)], [.string ⟨#[]⟩, .int .u64 0]⟩),
  (15, ⟨1, 8, false, 7, 73, 0, [], [.pointer none]⟩),
  (16, ⟨1, 8, false, 7, 76, 0, [], [.pointer none]⟩),
  (17, ⟨1, 8, false, 7, 86, 0, [], [.pointer none]⟩),
  (18, ⟨1, 8, true, 3, 0, 0, [(0, 1)], [.pointer none]⟩),
  (19, ⟨1, 8, true, 3, 0, 0, [(0, 1)], [.pointer none]⟩),
  (20, ⟨1, 16, false, 0, 0, 0, [], [.nilIface]⟩),
  (21, ⟨1, 4, false, 5, 0, 0, [], [.int .i32 0]⟩),
  (22, ⟨1, 24, false, 1, 5, 0, [], [.slice none 0 0]⟩),
  (23, ⟨1, 8, false, 8, 0, 0, [], [.nilFunc]⟩),
  (24, ⟨1, 8, false, 7, 41, 0, [], [.pointer none]⟩),
  (25, ⟨1, 8, false, 8, 0, 0, [], [.nilFunc]⟩),
  (26, ⟨1, 8, false, 8, 0, 0, [], [.nilFunc]⟩),
  (27, ⟨1, 24, false, 1, 9, 0, [], [.slice none 0 0]⟩),
  (28, ⟨1, 24, false, 1, 35, 0, [], [.slice none 0 0]⟩),
  (30, ⟨1, 8, false, 8, 0, 0, [], [.nilFunc]⟩),
  (31, ⟨1, 8, false, 8, 0, 0, [], [.nilFunc]⟩),
  (32, ⟨1, 8, false, 8, 0, 0, [], [.nilFunc]⟩),
  (33, ⟨1, 24, false, 1, 37, 0, [], [.slice none 0 0]⟩),
  (34, ⟨2, 32, true, 3, 0, 0, [(0, 1), (1, 1)], [.int .i64 0, .slice none 0 0]⟩),
  (35, ⟨2, 32, true, 3, 0, 0, [(0, 1), (1, 1)], [.int .i64 0, .slice none 0 0]⟩),
  (36, ⟨2, 2, true, 3, 0, 0, [(0, 1), (1, 1)], [.int .u8 0, .int .u8 0]⟩),
  (37, ⟨2, 2, true, 3, 0, 0, [(0, 1), (1, 1)], [.int .u8 0, .int .u8 0]⟩),
  (38, ⟨1, 8, false, 8, 0, 0, [], [.nilFunc]⟩),
  (39, ⟨1, 8, false, 8, 0, 0, [], [.nilFunc]⟩),
  (40, ⟨2, 32, true, 3, 0, 0, [(0, 1), (1, 1)], [.slice none 0 0, .int .i64 0]⟩),
  (41, ⟨2, 32, true, 3, 0, 0, [(0, 1), (1, 1)], [.slice none 0 0, .int .i64 0]⟩),
  (42, ⟨1, 8, false, 8, 0, 0, [], [.nilFunc]⟩),
  (43, ⟨1, 8, false, 7, 45, 0, [], [.pointer none]⟩),
  (44, ⟨3, 32, true, 3, 0, 0, [(0, 1), (1, 1), (2, 1)], [.string ⟨#[]⟩, .int .i64 0, .bool false]⟩),
  (45, ⟨3, 32, true, 3, 0, 0, [(0, 1), (1, 1), (2, 1)], [.string ⟨#[]⟩, .int .i64 0, .bool false]⟩),
  (46, ⟨1, 8, false, 8, 0, 0, [], [.nilFunc]⟩),
  (47, ⟨1, 24, false, 1, 49, 0, [], [.slice none 0 0]⟩),
  (48, ⟨2, 16, true, 3, 0, 0, [(0, 1), (1, 1)], [.bool false, .int .i64 0]⟩),
  (49, ⟨2, 16, true, 3, 0, 0, [(0, 1), (1, 1)], [.bool false, .int .i64 0]⟩),
  (50, ⟨3, 40, true, 3, 0, 0, [(0, 1), (1, 1), (2, 1)], [.bool false, .slice none 0 0, .int .i64 0]⟩),
  (51, ⟨3, 40, true, 3, 0, 0, [(0, 1), (1, 1), (2, 1)], [.bool false, .slice none 0 0, .int .i64 0]⟩),
  (52, ⟨7, 104, true, 3, 0, 0, [(0, 1), (1, 1), (2, 2), (4, 3)], [.slice none 0 0, .slice none 0 0, .bool false, .int .i64 0, .bool false, .slice none 0 0, .int .i64 0]⟩),
  (53, ⟨7, 104, true, 3, 0, 0, [(0, 1), (1, 1), (2, 2), (4, 3)], [.slice none 0 0, .slice none 0 0, .bool false, .int .i64 0, .bool false, .slice none 0 0, .int .i64 0]⟩),
  (54, ⟨1, 8, false, 8, 0, 0, [], [.nilFunc]⟩),
  (55, ⟨1, 8, false, 8, 0, 0, [], [.nilFunc]⟩),
  (56, ⟨1, 8, false, 8, 0, 0, [], [.nilFunc]⟩),
  (57, ⟨2, 2, true, 3, 0, 0, [(0, 1), (1, 1)], [.int .u8 0, .bool false]⟩),
  (58, ⟨2, 2, true, 3, 0, 0, [(0, 1), (1, 1)], [.int .u8 0, .bool false]⟩),
  (59, ⟨1, 8, false, 8, 0, 0, [], [.nilFunc]⟩),
  (60, ⟨1, 8, false, 8, 0, 0, [], [.nilFunc]⟩),
  (61, ⟨1, 8, false, 7, 53, 0, [], [.pointer none]⟩),
  (62, ⟨1, 8, false, 8, 0, 0, [], [.nilFunc]⟩),
  (63, ⟨1, 8, false, 8, 0, 0, [], [.nilFunc]⟩),
  (64, ⟨1, 8, false, 8, 0, 0, [], [.nilFunc]⟩),
  (65, ⟨1, 8, false, 8, 0, 0, [], [.nilFunc]⟩),
  (66, ⟨1, 8, false, 8, 0, 0, [], [.nilFunc]⟩),
  (67, ⟨1, 8, false, 8, 0, 0, [], [.nilFunc]⟩),
  (68, ⟨1, 8, false, 7, 51, 0, [], [.pointer none]⟩),
  (69, ⟨1, 8, false, 8, 0, 0, [], [.nilFunc]⟩),
  (70, ⟨1, 8, false, 8, 0, 0, [], [.nilFunc]⟩),
  (71, ⟨1, 8, false, 8, 0, 0, [], [.nilFunc]⟩),
  (72, ⟨4, 40, true, 3, 0, 0, [(0, 1), (1, 1), (2, 1), (3, 1)], [.pointer none, .pointer none, .pointer none, .string ⟨#[]⟩]⟩),
  (73, ⟨4, 40, true, 3, 0, 0, [(0, 1), (1, 1), (2, 1), (3, 1)], [.pointer none, .pointer none, .pointer none, .string ⟨#[]⟩]⟩),
  (74, ⟨0, 0, true, 2, 16, 0, [], []⟩),
  (75, ⟨0, 0, true, 3, 0, 0, [(0, 0)], []⟩),
  (76, ⟨0, 0, true, 3, 0, 0, [(0, 0)], []⟩),
  (77, ⟨1, 8, false, 8, 0, 0, [], [.nilFunc]⟩),
  (78, ⟨1, 4, false, 5, 0, 0, [], [.int .u32 0]⟩),
  (79, ⟨1, 1, false, 6, 0, 0, [], [.int .u8 0]⟩),
  (80, ⟨1, 1, false, 6, 0, 0, [], [.int .u8 0]⟩),
  (81, ⟨1, 8, false, 8, 0, 0, [], [.nilFunc]⟩),
  (82, ⟨1, 8, false, 7, 5, 0, [], [.pointer none]⟩),
  (83, ⟨1, 4, false, 5, 0, 0, [], [.int .i32 0]⟩),
  (84, ⟨1, 4, false, 5, 0, 0, [], [.int .i32 0]⟩),
  (85, ⟨11, 48, true, 3, 0, 0, [(0, 1), (1, 1), (2, 1), (3, 1), (4, 1), (5, 1), (6, 1), (7, 1), (8, 1), (9, 1), (10, 1)], [.int .u64 0, .int .u64 0, .int .u32 0, .int .u8 0, .int .u8 0, .int .u8 0, .int .u8 0, .nilFunc, .pointer none, .int .i32 0, .int .i32 0]⟩),
  (86, ⟨11, 48, true, 3, 0, 0, [(0, 1), (1, 1), (2, 1), (3, 1), (4, 1), (5, 1), (6, 1), (7, 1), (8, 1), (9, 1), (10, 1)], [.int .u64 0, .int .u64 0, .int .u32 0, .int .u8 0, .int .u8 0, .int .u8 0, .int .u8 0, .nilFunc, .pointer none, .int .i32 0, .int .i32 0]⟩),
  (87, ⟨1, 8, false, 0, 0, 0, [], [.pointer none]⟩)]
def fnL : List Nat := [5, 7, 10, 14, 16, 17, 18, 21, 22, 23, 24, 25, 26, 28, 29, 30, 31, 32, 33, 34, 35, 36, 37, 39, 40, 41]
def xtL : List (Nat × Nat) := [(44, 3)]
def plL : List (Nat × List (Nat × List Stage)) := [
  (22, [(2, [⟨[0, 1, 2, 3, 4], [], [], some 5⟩, ⟨[6], [], [], none⟩])]),
  (33, [(4, [⟨[0, 1, 2, 3, 4, 5, 6, 7, 8, 9], [], [], some 10⟩, ⟨[11, 12], [0], [], some 13⟩, ⟨[], [], [], none⟩])]),
  (34, [(4, [⟨[0, 1, 2, 3, 4, 5, 6, 7, 8, 9, 10, 11, 12, 13, 14, 15, 16], [], [], some 17⟩, ⟨[18, 19], [1, 13, 14], [], some 20⟩, ⟨[], [], [], none⟩])])]

def env (P : Program) : Env := envOf P tyL fnL plL xtL

theorem tys : tysOk Try.prog tyL := by unfold tysOk; kernel_rfl
theorem mixed : Try.prog.follows .mixedOrders = true := by kernel_rfl
theorem fns : (fnsOf Try.prog fnL).all (fnOk (env Try.prog)) = true := by kernel_rfl
theorem own : ownKnob Try.prog.godebug = none := by kernel_rfl

theorem xts : ∀ g, (g, 1) ∈ xtL → ∀ a b w, (callFunc g #[.string a, .string b]).run Try.prog w = .ok (.value (.int .i64 (Extern.BytealgCompare.cmp a b))) w := by
  intro g hg
  simp [xtL] at hg

theorem ext44 : Extern.find Try.f44 = some Extern.BytealgIndexByte.indexByte := by kernel_rfl
theorem ext44' : (Extern.findNext Try.f44).isSome = false := by kernel_rfl
theorem name44 : (Try.f44.name == "runtime.NumGoroutine") = false := by kernel_rfl
theorem body44 : Try.f44.body.isNone = true := by kernel_rfl
theorem xts3 : ∀ g, (g, 3) ∈ xtL → ∀ s c w, (callFunc g #[.string s, .int .u8 c]).run Try.prog w = .ok (.value (.int .i64 (idxB s c))) w := by
  intro g hg s c w
  have e : g = 44 := by simpa [xtL] using hg
  subst e
  have h1 : Extern.findNext Try.f44 = none := by
    cases h : Extern.findNext Try.f44 with
    | none => rfl
    | some x => have := ext44'; rw [h] at this; cases this
  simp only [callFunc, Sem.run_bind, run_program, Result.andThen_ok, Try.func44, name44, body44, Bool.false_eq_true, if_false, if_true, run_mark, h1, ext44]
  have hc : Extern.BytealgIndexByte.indexByte #[.string s, .int .u8 c] = (do
      let b ← Extern.Bytes.bytesOf (.string s)
      let c ← Extern.Bytes.asByte (.int .u8 c)
      match (List.range b.size).find? fun i => b[i]! == c with
      | some i => pure (goInt i)
      | none => pure (goInt (-1))) := rfl
  rw [hc]
  simp only [Extern.Bytes.bytesOf, Extern.Bytes.asByte, pure_bind, idxB]
  cases (List.range s.size).find? fun i => s[i]! == c.toNat.toUInt8 <;> simp [goInt]


theorem ok : EnvOk (env Try.prog) := env_ok tys mixed fns xts xts3 (fun g hg => by simp [xtL] at hg)

theorem here : (tget (env Try.prog).ff 5).isSome = true := by kernel_rfl

set_option maxRecDepth 100000 in
theorem runs : callK (env Try.prog) 1000000 1000 5 [] ⟨.nil, 0⟩ kTrue = True := by kernel_rfl

theorem walk (w : World) : Calls Try.prog 5 #[] w fun e w' => e = .returned (.bool true) ∧ Below w.heap.size w w' := by
  obtain ⟨fn, hfn⟩ := Option.isSome_iff_exists.1 here
  exact law_fast ok hfn (by unfold unkU; omega) runs w

set_option maxRecDepth 100000 in
theorem lifted (os : Os) (started : os.Started) (H : Type) (enc : TypeId × Value → H) :
    ReturnsInHanded {} Try.checked os 5 .any (Rows.rexFormsSpec.pre6 enc Try.prog Try.f5 Rows.rexFormsRow.domain false) (Rows.rexFormsSpec.post enc Try.prog Try.f5 false true false false) := by
  refine returnsInHanded_of_change (C := Try.checked) own started (by kernel_rfl) Try.func5
    (ChangeSpec.witness6 (enc := enc) (C := Try.checked) false ⟨#[], #[], []⟩ 8 (by kernel_rfl) (by kernel_rfl) (by kernel_rfl) (by kernel_rfl)) ?_
  intro W base args ds gs before hval0 hW hcnd _
  have hW' := hW
  obtain ⟨p, q, hA0, hV, rfl, hfz, hnd⟩ := hW
  have hA : DataW.TrodAll enc Try.prog W 0 (fun _ => true) true Try.f5.params.toList args.toList ds p := hA0
  rw [Try.params5] at hA
  obtain ⟨rfl, rfl, rfl⟩ := trodAll_none hA
  obtain ⟨rfl, rfl⟩ := trodVars_none hV
  clear hA0 hval0
  simp only [List.append_nil] at hW'
  refine (walk W).mono fun e W' ⟨he, bel⟩ => ?_
  subst he
  exact ⟨_, rfl, _, _, _, [], [], [], hW', trodAll_mk1 (shut_bool Try.underlying4 _), trodAll_mk0, rfl, bel.frame _, fun h => by cases h⟩

theorem over : Rows.rexFormsRow.holds Try.pinned (OpenSpec.ofChange Rows.rexFormsSpec) :=
  OpenClaim.holds_of_wide 5 Try.f5 rfl rfl rfl rfl rfl rfl rfl ⟨rfl, rfl, rfl, rfl, rfl⟩ rfl rfl rfl rfl rfl (by kernel_rfl) Try.func5 (by kernel_rfl)
    (of_decide_eq_true (by kernel_rfl)) (by unfold Func.isWrapper; first | (rw [if_pos (by decide +kernel)]; kernel_rfl) | (rw [if_neg (by decide +kernel)]; exact ⟨rfl, rfl⟩))
    (fun os started H enc _ => lifted os started H enc)
end Forms

theorem RexForms_holds : Rows.RexFormsSaid := Forms.over
#print axioms RexForms_holds
end Go.Proofs.Ytcdohkpfhgbjnaa
