/-
  The law ValForms returns true, in whatever world it is called; nothing that was there is changed. No conditions.
  How: the call is reckoned by an evaluator over named memory (the texts Ev..), which is proved right for every world, every order that is left open and every capacity; the kernel runs it.
-/
import Derived.Test.YtnkadclkaclppaaRows
import Derived.Test.YtnkadclkaclppaaEvTab
import Derived.WalkKit
import Derived.ProofKit
import Derived.OpenShut
import Derived.Below
namespace Go.Proofs.Ytnkadclkaclppaa
open Go.ChangeShapes Go.WideShapes Go.ChangeAt Go.RowKit Go.Ev
namespace Forms
def tyL : List (Nat × TI) := [
  (1, ⟨1, 8, false, 8, 0, 0, [], [.nilFunc]⟩),
  (2, ⟨1, 8, false, 5, 0, 0, [], [.int .i64 0]⟩),
  (3, ⟨1, 8, false, 5, 0, 0, [], [.int .i64 0]⟩),
  (4, ⟨1, 1, false, 9, 0, 0, [], [.bool false]⟩),
  (5, ⟨1, 1, false, 6, 0, 0, [], [.int .u8 0]⟩),
  (6, ⟨1, 1, false, 6, 0, 0, [], [.int .u8 0]⟩),
  (7, ⟨4, 24, true, 3, 0, 0, [(0, 1), (1, 1), (2, 1), (3, 1)], [.int .i64 0, .int .i64 0, .bool false, .int .u8 0]⟩),
  (8, ⟨4, 24, true, 3, 0, 0, [(0, 1), (1, 1), (2, 1), (3, 1)], [.int .i64 0, .int .i64 0, .bool false, .int .u8 0]⟩),
  (9, ⟨1, 16, false, 4, 0, 0, [], [.string ⟨#[]⟩]⟩),
  (10, ⟨1, 16, false, 4, 0, 0, [], [.string ⟨#[]⟩]⟩),
  (11, ⟨1, 16, false, 4, 0, 0, [], [.string ⟨#[]⟩]⟩),
  (12, ⟨1, 8, false, 5, 0, 0, [], [.int .u64 0]⟩),
  (13, ⟨2, 24, true, 3, 0, 0, [(0, 1), (1, 1)], [.string ⟨#[]⟩, .int .u64 0]⟩),
  (14, ⟨2, 24, true, 3, 0, 0, [(0, 1), (1, 1)], [.string ⟨#[]⟩, .int .u64 0]⟩),
  (15, ⟨1, 8, false, 7, 72, 0, [], [.pointer none]⟩),
  (16, ⟨1, 8, false, 7, 75, 0, [], [.pointer none]⟩),
  (17, ⟨1, 8, false, 7, 85, 0, [], [.pointer none]⟩),
  (18, ⟨1, 8, true, 3, 0, 0, [(0, 1)], [.pointer none]⟩),
  (19, ⟨1, 8, true, 3, 0, 0, [(0, 1)], [.pointer none]⟩),
  (20, ⟨1, 16, false, 0, 0, 0, [], [.nilIface]⟩),
  (21, ⟨1, 4, false, 5, 0, 0, [], [.int .i32 0]⟩),
  (22, ⟨1, 24, false, 1, 24, 0, [], [.slice none 0 0]⟩),
  (23, ⟨4, 56, true, 3, 0, 0, [(0, 1), (1, 1), (2, 1), (3, 1)], [.int .i64 0, .int .i64 0, .string ⟨#[]⟩, .slice none 0 0]⟩),
  (24, ⟨4, 56, true, 3, 0, 0, [(0, 1), (1, 1), (2, 1), (3, 1)], [.int .i64 0, .int .i64 0, .string ⟨#[]⟩, .slice none 0 0]⟩),
  (25, ⟨1, 24, false, 1, 5, 0, [], [.slice none 0 0]⟩),
  (26, ⟨1, 8, false, 8, 0, 0, [], [.nilFunc]⟩),
  (27, ⟨1, 8, false, 8, 0, 0, [], [.nilFunc]⟩),
  (28, ⟨1, 8, false, 7, 48, 0, [], [.pointer none]⟩),
  (29, ⟨1, 8, false, 8, 0, 0, [], [.nilFunc]⟩),
  (30, ⟨1, 8, false, 8, 0, 0, [], [.nilFunc]⟩),
  (31, ⟨1, 8, false, 8, 0, 0, [], [.nilFunc]⟩),
  (32, ⟨1, 8, false, 8, 0, 0, [], [.nilFunc]⟩),
  (33, ⟨1, 8, false, 8, 0, 0, [], [.nilFunc]⟩),
  (34, ⟨1, 8, false, 8, 0, 0, [], [.nilFunc]⟩),
  (35, ⟨1, 24, false, 1, 25, 0, [], [.slice none 0 0]⟩),
  (36, ⟨1, 8, false, 8, 0, 0, [], [.nilFunc]⟩),
  (37, ⟨1, 8, false, 8, 0, 0, [], [.nilFunc]⟩),
  (38, ⟨1, 24, false, 1, 9, 0, [], [.slice none 0 0]⟩),
  (40, ⟨1, 8, false, 8, 0, 0, [], [.nilFunc]⟩),
  (41, ⟨1, 8, false, 8, 0, 0, [], [.nilFunc]⟩),
  (42, ⟨1, 8, false, 8, 0, 0, [], [.nilFunc]⟩),
  (43, ⟨1, 8, false, 8, 0, 0, [], [.nilFunc]⟩),
  (44, ⟨1, 8, false, 8, 0, 0, [], [.nilFunc]⟩),
  (45, ⟨1, 8, false, 8, 0, 0, [], [.nilFunc]⟩),
  (46, ⟨1, 8, false, 8, 0, 0, [], [.nilFunc]⟩),
  (47, ⟨2, 32, true, 3, 0, 0, [(0, 1), (1, 1)], [.slice none 0 0, .int .i64 0]⟩),
  (48, ⟨2, 32, true, 3, 0, 0, [(0, 1), (1, 1)], [.slice none 0 0, .int .i64 0]⟩),
  (49, ⟨1, 8, false, 8, 0, 0, [], [.nilFunc]⟩),
  (50, ⟨1, 24, false, 1, 2, 0, [], [.slice none 0 0]⟩),
  (51, ⟨1, 8, false, 8, 0, 0, [], [.nilFunc]⟩),
  (52, ⟨1, 8, false, 8, 0, 0, [], [.nilFunc]⟩),
  (53, ⟨1, 8, false, 8, 0, 0, [], [.nilFunc]⟩),
  (54, ⟨1, 8, false, 8, 0, 0, [], [.nilFunc]⟩),
  (55, ⟨2, 32, true, 3, 0, 0, [(0, 1), (1, 1)], [.slice none 0 0, .nilFunc]⟩),
  (56, ⟨2, 32, true, 3, 0, 0, [(0, 1), (1, 1)], [.slice none 0 0, .nilFunc]⟩),
  (57, ⟨1, 8, false, 8, 0, 0, [], [.nilFunc]⟩),
  (58, ⟨1, 8, false, 8, 0, 0, [], [.nilFunc]⟩),
  (59, ⟨1, 8, false, 8, 0, 0, [], [.nilFunc]⟩),
  (60, ⟨1, 8, false, 8, 0, 0, [], [.nilFunc]⟩),
  (61, ⟨1, 8, false, 8, 0, 0, [], [.nilFunc]⟩),
  (62, ⟨1, 8, false, 8, 0, 0, [], [.nilFunc]⟩),
  (63, ⟨1, 8, false, 8, 0, 0, [], [.nilFunc]⟩),
  (64, ⟨1, 8, false, 8, 0, 0, [], [.nilFunc]⟩),
  (65, ⟨1, 8, false, 8, 0, 0, [], [.nilFunc]⟩),
  (66, ⟨1, 8, false, 8, 0, 0, [], [.nilFunc]⟩),
  (67, ⟨1, 8, false, 8, 0, 0, [], [.nilFunc]⟩),
  (68, ⟨1, 24, false, 1, 22, 0, [], [.slice none 0 0]⟩),
  (69, ⟨1, 8, false, 8, 0, 0, [], [.nilFunc]⟩),
  (70, ⟨1, 8, false, 8, 0, 0, [], [.nilFunc]⟩),
  (71, ⟨4, 40, true, 3, 0, 0, [(0, 1), (1, 1), (2, 1), (3, 1)], [.pointer none, .pointer none, .pointer none, .string ⟨#[]⟩]⟩),
  (72, ⟨4, 40, true, 3, 0, 0, [(0, 1), (1, 1), (2, 1), (3, 1)], [.pointer none, .pointer none, .pointer none, .string ⟨#[]⟩]⟩),
  (73, ⟨0, 0, true, 2, 16, 0, [], []⟩),
  (74, ⟨0, 0, true, 3, 0, 0, [(0, 0)], []⟩),
  (75, ⟨0, 0, true, 3, 0, 0, [(0, 0)], []⟩),
  (76, ⟨1, 8, false, 8, 0, 0, [], [.nilFunc]⟩),
  (77, ⟨1, 4, false, 5, 0, 0, [], [.int .u32 0]⟩),
  (78, ⟨1, 1, false, 6, 0, 0, [], [.int .u8 0]⟩),
  (79, ⟨1, 1, false, 6, 0, 0, [], [.int .u8 0]⟩),
  (80, ⟨1, 8, false, 8, 0, 0, [], [.nilFunc]⟩),
  (81, ⟨1, 8, false, 7, 5, 0, [], [.pointer none]⟩),
  (82, ⟨1, 4, false, 5, 0, 0, [], [.int .i32 0]⟩),
  (83, ⟨1, 4, false, 5, 0, 0, [], [.int .i32 0]⟩),
  (84, ⟨11, 48, true, 3, 0, 0, [(0, 1), (1, 1), (2, 1), (3, 1), (4, 1), (5, 1), (6, 1), (7, 1), (8, 1), (9, 1), (10, 1)], [.int .u64 0, .int .u64 0, .int .u32 0, .int .u8 0, .int .u8 0, .int .u8 0, .int .u8 0, .nilFunc, .pointer none, .int .i32 0, .int .i32 0]⟩),
  (85, ⟨11, 48, true, 3, 0, 0, [(0, 1), (1, 1), (2, 1), (3, 1), (4, 1), (5, 1), (6, 1), (7, 1), (8, 1), (9, 1), (10, 1)], [.int .u64 0, .int .u64 0, .int .u32 0, .int .u8 0, .int .u8 0, .int .u8 0, .int .u8 0, .nilFunc, .pointer none, .int .i32 0, .int .i32 0]⟩),
  (86, ⟨1, 8, false, 0, 0, 0, [], [.pointer none]⟩)]
def fnL : List Nat := [6, 9, 14, 15, 17, 19, 22, 25, 28, 29, 30, 31, 33, 34, 35, 36, 38, 39, 40, 41, 42, 43, 44, 45, 46, 47, 48, 49, 50, 51, 52]
def xtL : List (Nat × Nat) := [(53, 1)]
def plL : List (Nat × List (Nat × List Stage)) := [
  (6, [(5, [⟨[0, 1, 2, 3, 4, 5, 6, 7, 8, 9, 10, 11, 12, 13, 14, 15, 16, 20, 21, 22, 23], [], [7, 12, 21], some 17⟩, ⟨[18, 19, 24, 25], [0, 1, 2, 3, 4, 5, 6, 8, 9, 10, 11, 13, 14, 20, 22, 23], [], none⟩]), (6, [⟨[0, 1, 2, 3, 4, 5, 6, 7, 8, 9, 10, 11, 12, 13, 14, 15, 16, 17, 18, 19, 20, 21, 22, 23, 24, 25, 26, 30, 31, 32, 33, 34, 35, 37, 40, 41, 42, 43, 44, 45, 46], [], [9, 12, 16, 20, 23, 32, 42, 45], some 27⟩, ⟨[28, 29], [0, 1, 2, 3, 4, 5, 6, 7, 8, 10, 11, 13, 14, 15, 17, 18, 19, 21, 22, 24, 30, 31, 33, 34, 35, 37, 40, 41, 43, 44, 46], [9, 12, 16, 20, 23, 28, 32, 42, 45], some 36⟩, ⟨[38, 39, 47, 48], [0, 1, 2, 3, 4, 5, 6, 7, 8, 10, 11, 13, 14, 15, 17, 18, 19, 21, 22, 24, 29, 30, 31, 33, 37, 40, 41, 43, 44, 46], [], none⟩])]),
  (34, [(4, [⟨[0, 1, 2, 3, 4, 5, 6, 7, 8, 9, 10], [], [], some 11⟩, ⟨[12], [], [], none⟩])]),
  (35, [(1, [⟨[0, 2], [], [], some 1⟩, ⟨[], [2], [], some 3⟩, ⟨[], [], [], some 4⟩, ⟨[5], [], [], none⟩])]),
  (36, [(1, [⟨[0, 1, 2, 3, 4], [], [], none⟩]), (4, [⟨[0, 1, 2, 3, 4, 5, 6, 7], [], [], some 8⟩, ⟨[9], [], [], none⟩]), (7, [⟨[0, 1, 2, 3, 4, 5, 6, 7, 8, 9, 10, 11, 12, 13, 14], [], [], some 15⟩, ⟨[16, 17, 18, 19], [0], [], none⟩])]),
  (39, [(4, [⟨[0, 1, 2, 3, 4, 5, 6, 7, 8, 9, 10, 11, 12], [], [], some 13⟩, ⟨[14], [], [], none⟩])])]

def env (P : Program) : Env := envOf P tyL fnL plL xtL

theorem tys : tysOk Try.prog tyL := by unfold tysOk; kernel_rfl
theorem mixed : Try.prog.follows .mixedOrders = true := by kernel_rfl
theorem fns : (fnsOf Try.prog fnL).all (fnOk (env Try.prog)) = true := by kernel_rfl
theorem own : ownKnob Try.prog.godebug = none := by kernel_rfl

theorem ext53 : Extern.find Try.f53 = some Extern.BytealgCompare.compare := by kernel_rfl
theorem ext53' : (Extern.findNext Try.f53).isSome = false := by kernel_rfl
theorem name53 : (Try.f53.name == "runtime.NumGoroutine") = false := by kernel_rfl
theorem body53 : Try.f53.body.isNone = true := by kernel_rfl

theorem xts : ∀ g, (g, 1) ∈ xtL → ∀ a b w, (callFunc g #[.string a, .string b]).run Try.prog w = .ok (.value (.int .i64 (Extern.BytealgCompare.cmp a b))) w := by
  intro g hg a b w
  have e : g = 53 := by simpa [xtL] using hg
  subst e
  have h1 : Extern.findNext Try.f53 = none := by
    cases h : Extern.findNext Try.f53 with
    | none => rfl
    | some x => have := ext53'; rw [h] at this; cases this
  simp only [callFunc, Sem.run_bind, run_program, Result.andThen_ok, Try.func53, name53, body53, Bool.false_eq_true, if_false, if_true, run_mark, h1, ext53]
  have hc : Extern.BytealgCompare.compare #[.string a, .string b] = (do pure (goInt (Extern.BytealgCompare.cmp (← Extern.Bytes.bytesOf (.string a)) (← Extern.Bytes.bytesOf (.string b))))) := rfl
  rw [hc]
  simp [Extern.Bytes.bytesOf, goInt]

theorem ok : EnvOk (env Try.prog) := env_ok tys mixed fns xts

theorem here : (tget (env Try.prog).ff 6).isSome = true := by kernel_rfl

set_option maxRecDepth 100000 in
theorem runs : saysTrue (callA (env Try.prog) (ev (env Try.prog) 100000) 6 [] ⟨.nil, 0⟩) = true := by kernel_rfl

theorem walk (w : World) : Calls Try.prog 6 #[] w fun e w' => e = .returned (.bool true) ∧ Below w.heap.size w w' := by
  obtain ⟨fn, hfn⟩ := Option.isSome_iff_exists.1 here
  exact law_true ok hfn runs w

set_option maxRecDepth 100000 in
theorem lifted (os : Os) (started : os.Started) (H : Type) (enc : TypeId × Value → H) :
    ReturnsInHanded {} Try.checked os 6 .any (Rows.valFormsSpec.pre6 enc Try.prog Try.f6 Rows.valFormsRow.domain false) (Rows.valFormsSpec.post enc Try.prog Try.f6 false true false false) := by
  refine returnsInHanded_of_change (C := Try.checked) own started (by kernel_rfl) Try.func6
    (ChangeSpec.witness6 (enc := enc) (C := Try.checked) false ⟨#[], #[], []⟩ 8 (by kernel_rfl) (by kernel_rfl) (by kernel_rfl) (by kernel_rfl)) ?_
  intro W base args ds gs before hval0 hW hcnd _
  have hW' := hW
  obtain ⟨p, q, hA0, hV, rfl, hfz, hnd⟩ := hW
  have hA : DataW.TrodAll enc Try.prog W 0 (fun _ => true) true Try.f6.params.toList args.toList ds p := hA0
  rw [Try.params6] at hA
  obtain ⟨rfl, rfl, rfl⟩ := trodAll_none hA
  obtain ⟨rfl, rfl⟩ := trodVars_none hV
  clear hA0 hval0
  simp only [List.append_nil] at hW'
  refine (walk W).mono fun e W' ⟨he, bel⟩ => ?_
  subst he
  exact ⟨_, rfl, _, _, _, [], [], [], hW', trodAll_mk1 (shut_bool Try.underlying4 _), trodAll_mk0, rfl, bel.frame _, fun h => by cases h⟩

theorem over : Rows.valFormsRow.holds Try.pinned (OpenSpec.ofChange Rows.valFormsSpec) :=
  OpenClaim.holds_of_wide 6 Try.f6 rfl rfl rfl rfl rfl rfl rfl ⟨rfl, rfl, rfl, rfl, rfl⟩ rfl rfl rfl rfl rfl (by kernel_rfl) Try.func6 (by kernel_rfl)
    (of_decide_eq_true (by kernel_rfl)) (by unfold Func.isWrapper; first | (rw [if_pos (by decide +kernel)]; kernel_rfl) | (rw [if_neg (by decide +kernel)]; exact ⟨rfl, rfl⟩))
    (fun os started H enc _ => lifted os started H enc)
end Forms

theorem ValForms_holds : Rows.ValFormsSaid := Forms.over
#print axioms ValForms_holds
end Go.Proofs.Ytnkadclkaclppaa
