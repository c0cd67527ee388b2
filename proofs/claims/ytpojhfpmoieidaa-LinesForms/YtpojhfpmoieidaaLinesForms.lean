/-
  The law LinesForms returns true, in whatever world it is called; nothing that was there is changed. No conditions.
  How: the call is reckoned by an evaluator over named memory (the texts Ev..), which is proved right for every world, every order that is left open and every capacity; the kernel runs it.
-/
import Derived.Test.YtpojhfpmoieidaaRows
import Derived.Test.YtpojhfpmoieidaaEvTab
import Derived.Test.YtpojhfpmoieidaaEvFast4
import Derived.WalkKit
import Derived.ProofKit
import Derived.OpenShut
import Derived.Below
namespace Go.Proofs.Ytpojhfpmoieidaa
open Go.ChangeShapes Go.WideShapes Go.ChangeAt Go.RowKit Go.Ev
namespace Forms
def tyL : List (Nat × TI) := [
  (1, ⟨1, 8, false, 8, 0, 0, [], [.nilFunc]⟩),
  (2, ⟨1, 8, false, 5, 0, 0, [], [.int .i64 0]⟩),
  (3, ⟨1, 8, false, 5, 0, 0, [], [.int .i64 0]⟩),
  (4, ⟨1, 1, false, 9, 0, 0, [], [.bool false]⟩),
  (5, ⟨1, 1, false, 6, 0, 0, [], [.int .u8 0]⟩),
  (6, ⟨1, 1, false, 6, 0, 0, [], [.int .u8 0]⟩),
  (7, ⟨4, 24, true, 3, 0, 0, [(0, 1), (1, 1), (2, 1), (3, 1)], [.int .i64 0, .int .i64 0, .bool false, .int .u8 0]⟩),
  (8, ⟨4, 24, true, 3, 0, 0, [(0, 1), (1, 1), (2, 1), (3, 1)], [.int .i64 0, .int .i64 0, .bool false, .int .u8 0]⟩),
  (9, ⟨1, 16, false, 4, 0, 0, [], [.string ⟨#[]⟩]⟩),
  (10, ⟨1, 16, false, 4, 0, 0, [], [.string ⟨#[]⟩]⟩),
  (11, ⟨1, 16, false, 4, 0, 0, [], [.string ⟨#[]⟩]⟩),
  (12, ⟨1, 8, false, 5, 0, 0, [], [.int .u64 0]⟩),
  (13, ⟨2, 24, true, 3, 0, 0, [(0, 1), (1, 1)], [.string ⟨#[]⟩, .int .u64 0]⟩),
  (14, ⟨2, 24, true, 3, 0, 0, [(0, 1), (1, 1)], [.string ⟨#[]⟩, .int .u64 0]⟩),
  (15, ⟨1, 8, false, 7, 47, 0, [], [.pointer none]⟩),
  (16, ⟨1, 8, false, 7, 50, 0, [], [.pointer none]⟩),
  (17, ⟨1, 8, false, 7, 60, 0, [], [.pointer none]⟩),
  (18, ⟨1, 8, true, 3, 0, 0, [(0, 1)], [.pointer none]⟩),
  (19, ⟨1, 8, true, 3, 0, 0, [(0, 1)], [.pointer none]⟩),
  (20, ⟨1, 16, false, 0, 0, 0, [], [.nilIface]⟩),
  (21, ⟨1, 4, false, 5, 0, 0, [], [.int .i32 0]⟩),
  (22, ⟨1, 8, false, 8, 0, 0, [], [.nilFunc]⟩),
  (23, ⟨1, 24, false, 1, 3, 0, [], [.slice none 0 0]⟩),
  (24, ⟨1, 8, false, 8, 0, 0, [], [.nilFunc]⟩),
  (26, ⟨1, 8, false, 8, 0, 0, [], [.nilFunc]⟩),
  (27, ⟨1, 8, false, 8, 0, 0, [], [.nilFunc]⟩),
  (28, ⟨1, 24, false, 1, 9, 0, [], [.slice none 0 0]⟩),
  (29, ⟨1, 8, false, 8, 0, 0, [], [.nilFunc]⟩),
  (30, ⟨3, 32, true, 3, 0, 0, [(0, 1), (1, 1), (2, 1)], [.int .i64 0, .int .i64 0, .string ⟨#[]⟩]⟩),
  (31, ⟨3, 32, true, 3, 0, 0, [(0, 1), (1, 1), (2, 1)], [.int .i64 0, .int .i64 0, .string ⟨#[]⟩]⟩),
  (32, ⟨1, 8, false, 8, 0, 0, [], [.nilFunc]⟩),
  (33, ⟨1, 8, false, 8, 0, 0, [], [.nilFunc]⟩),
  (34, ⟨1, 8, false, 8, 0, 0, [], [.nilFunc]⟩),
  (35, ⟨1, 8, false, 8, 0, 0, [], [.nilFunc]⟩),
  (36, ⟨1, 8, false, 8, 0, 0, [], [.nilFunc]⟩),
  (37, ⟨1, 8, false, 8, 0, 0, [], [.nilFunc]⟩),
  (38, ⟨1, 8, false, 8, 0, 0, [], [.nilFunc]⟩),
  (39, ⟨1, 8, false, 8, 0, 0, [], [.nilFunc]⟩),
  (40, ⟨1, 8, false, 8, 0, 0, [], [.nilFunc]⟩),
  (41, ⟨1, 8, false, 8, 0, 0, [], [.nilFunc]⟩),
  (42, ⟨1, 8, false, 8, 0, 0, [], [.nilFunc]⟩),
  (43, ⟨1, 8, false, 8, 0, 0, [], [.nilFunc]⟩),
  (44, ⟨1, 8, false, 8, 0, 0, [], [.nilFunc]⟩),
  (45, ⟨1, 8, false, 8, 0, 0, [], [.nilFunc]⟩),
  (46, ⟨4, 40, true, 3, 0, 0, [(0, 1), (1, 1), (2, 1), (3, 1)], [.pointer none, .pointer none, .pointer none, .string ⟨#[]⟩]⟩),
  (47, ⟨4, 40, true, 3, 0, 0, [(0, 1), (1, 1), (2, 1), (3, 1)], [.pointer none, .pointer none, .pointer none, .string ⟨#[]⟩]⟩),
  (48, ⟨0, 0, true, 2, 16, 0, [], []⟩),
  (49, ⟨0, 0, true, 3, 0, 0, [(0, 0)], []⟩),
  (50, ⟨0, 0, true, 3, 0, 0, [(0, 0)], []⟩),
  (51, ⟨1, 8, false, 8, 0, 0, [], [.nilFunc]⟩),
  (52, ⟨1, 4, false, 5, 0, 0, [], [.int .u32 0]⟩),
  (53, ⟨1, 1, false, 6, 0, 0, [], [.int .u8 0]⟩),
  (54, ⟨1, 1, false, 6, 0, 0, [], [.int .u8 0]⟩),
  (55, ⟨1, 8, false, 8, 0, 0, [], [.nilFunc]⟩),
  (56, ⟨1, 8, false, 7, 5, 0, [], [.pointer none]⟩),
  (57, ⟨1, 4, false, 5, 0, 0, [], [.int .i32 0]⟩),
  (58, ⟨1, 4, false, 5, 0, 0, [], [.int .i32 0]⟩),
  (59, ⟨11, 48, true, 3, 0, 0, [(0, 1), (1, 1), (2, 1), (3, 1), (4, 1), (5, 1), (6, 1), (7, 1), (8, 1), (9, 1), (10, 1)], [.int .u64 0, .int .u64 0, .int .u32 0, .int .u8 0, .int .u8 0, .int .u8 0, .int .u8 0, .nilFunc, .pointer none, .int .i32 0, .int .i32 0]⟩),
  (60, ⟨11, 48, true, 3, 0, 0, [(0, 1), (1, 1), (2, 1), (3, 1), (4, 1), (5, 1), (6, 1), (7, 1), (8, 1), (9, 1), (10, 1)], [.int .u64 0, .int .u64 0, .int .u32 0, .int .u8 0, .int .u8 0, .int .u8 0, .int .u8 0, .nilFunc, .pointer none, .int .i32 0, .int .i32 0]⟩),
  (61, ⟨1, 8, false, 0, 0, 0, [], [.pointer none]⟩)]
def fnL : List Nat := [4, 6, 7, 8, 9, 11, 12, 13, 14, 15, 16, 17, 18, 19, 20]
def xtL : List (Nat × Nat) := []
def plL : List (Nat × List (Nat × List Stage)) := [
  (8, [(6, [⟨[0, 1, 2, 3, 4], [], [], some 5⟩, ⟨[], [2, 3, 4], [], some 6⟩, ⟨[], [], [], none⟩]), (7, [⟨[0], [], [], some 1⟩, ⟨[], [0], [], some 2⟩, ⟨[], [], [], none⟩])])]

def env (P : Program) : Env := envOf P tyL fnL plL xtL

theorem tys : tysOk Try.prog tyL := by unfold tysOk; kernel_rfl
theorem mixed : Try.prog.follows .mixedOrders = true := by kernel_rfl
theorem fns : (fnsOf Try.prog fnL).all (fnOk (env Try.prog)) = true := by kernel_rfl
theorem own : ownKnob Try.prog.godebug = none := by kernel_rfl

theorem xts : ∀ g, (g, 1) ∈ xtL → ∀ a b w, (callFunc g #[.string a, .string b]).run Try.prog w = .ok (.value (.int .i64 (Extern.BytealgCompare.cmp a b))) w := by
  intro g hg
  simp [xtL] at hg

theorem xts3 : ∀ g, (g, 3) ∈ xtL → ∀ s c w, (callFunc g #[.string s, .int .u8 c]).run Try.prog w = .ok (.value (.int .i64 (idxB s c))) w := by
  intro g hg
  simp [xtL] at hg


theorem ok : EnvOk (env Try.prog) := env_ok tys mixed fns xts xts3 (fun g hg => by simp [xtL] at hg)

theorem here : (tget (env Try.prog).ff 4).isSome = true := by kernel_rfl

set_option maxRecDepth 100000 in
theorem runs : callK (env Try.prog) 1000000 1000 4 [] ⟨.nil, 0⟩ kTrue = True := by kernel_rfl

theorem walk (w : World) : Calls Try.prog 4 #[] w fun e w' => e = .returned (.bool true) ∧ Below w.heap.size w w' := by
  obtain ⟨fn, hfn⟩ := Option.isSome_iff_exists.1 here
  exact law_fast ok hfn (by unfold unkU; omega) runs w

set_option maxRecDepth 100000 in
theorem lifted (os : Os) (started : os.Started) (H : Type) (enc : TypeId × Value → H) :
    ReturnsInHanded {} Try.checked os 4 .any (Rows.linesFormsSpec.pre6 enc Try.prog Try.f4 Rows.linesFormsRow.domain false) (Rows.linesFormsSpec.post enc Try.prog Try.f4 false true false false) := by
  refine returnsInHanded_of_change (C := Try.checked) own started (by kernel_rfl) Try.func4
    (ChangeSpec.witness6 (enc := enc) (C := Try.checked) false ⟨#[], #[], []⟩ 8 (by kernel_rfl) (by kernel_rfl) (by kernel_rfl) (by kernel_rfl)) ?_
  intro W base args ds gs before hval0 hW hcnd _
  have hW' := hW
  obtain ⟨p, q, hA0, hV, rfl, hfz, hnd⟩ := hW
  have hA : DataW.TrodAll enc Try.prog W 0 (fun _ => true) true Try.f4.params.toList args.toList ds p := hA0
  rw [Try.params4] at hA
  obtain ⟨rfl, rfl, rfl⟩ := trodAll_none hA
  obtain ⟨rfl, rfl⟩ := trodVars_none hV
  clear hA0 hval0
  simp only [List.append_nil] at hW'
  refine (walk W).mono fun e W' ⟨he, bel⟩ => ?_
  subst he
  exact ⟨_, rfl, _, _, _, [], [], [], hW', trodAll_mk1 (shut_bool Try.underlying4 _), trodAll_mk0, rfl, bel.frame _, fun h => by cases h⟩

theorem over : Rows.linesFormsRow.holds Try.pinned (OpenSpec.ofChange Rows.linesFormsSpec) :=
  OpenClaim.holds_of_wide 4 Try.f4 rfl rfl rfl rfl rfl rfl rfl ⟨rfl, rfl, rfl, rfl, rfl⟩ rfl rfl rfl rfl rfl (by kernel_rfl) Try.func4 (by kernel_rfl)
    (of_decide_eq_true (by kernel_rfl)) (by unfold Func.isWrapper; first | (rw [if_pos (by decide +kernel)]; kernel_rfl) | (rw [if_neg (by decide +kernel)]; exact ⟨rfl, rfl⟩))
    (fun os started H enc _ => lifted os started H enc)
end Forms

theorem LinesForms_holds : Rows.LinesFormsSaid := Forms.over
#print axioms LinesForms_holds
end Go.Proofs.Ytpojhfpmoieidaa
