/-
  The law PieceForms returns true, in whatever world it is called; nothing that was there is changed. No conditions.
  How: the call is reckoned by an evaluator over named memory (the texts Ev..), which is proved right for every world, every order that is left open and every capacity; the kernel runs it.
-/
import Derived.Test.YtkdjmdcnfbolkaaRows
import Derived.Test.YtkdjmdcnfbolkaaEvTab
import Derived.Test.YtkdjmdcnfbolkaaEvFast4
import Derived.Test.YtkdjmdcnfbolkaaEwBd
import Derived.WalkKit
import Derived.ProofKit
import Derived.OpenShut
import Derived.Below
namespace Go.Proofs.Ytkdjmdcnfbolkaa
open Go.ChangeShapes Go.WideShapes Go.ChangeAt Go.RowKit Go.Ev
namespace Forms
def tyL : List (Nat × TI) := [
  (1, ⟨1, 8, false, 8, 0, 0, [], [.nilFunc]⟩),
  (2, ⟨1, 8, false, 5, 0, 0, [], [.int .i64 0]⟩),
  (3, ⟨1, 8, false, 5, 0, 0, [], [.int .i64 0]⟩),
  (4, ⟨1, 1, false, 9, 0, 0, [], [.bool false]⟩),
  (5, ⟨1, 1, false, 6, 0, 0, [], [.int .u8 0]⟩),
  (6, ⟨1, 1, false, 6, 0, 0, [], [.int .u8 0]⟩),
  (7, ⟨4, 24, true, 3, 0, 0, [(0, 1), (1, 1), (2, 1), (3, 1)], [.int .i64 0, .int .i64 0, .bool false, .int .u8 0]⟩),
  (8, ⟨4, 24, true, 3, 0, 0, [(0, 1), (1, 1), (2, 1), (3, 1)], [.int .i64 0, .int .i64 0, .bool false, .int .u8 0]⟩),
  (9, ⟨1, 16, false, 4, 0, 0, [], [.string ⟨#[]⟩]⟩),
  (10, ⟨1, 16, false, 4, 0, 0, [], [.string ⟨#[]⟩]⟩),
  (11, ⟨1, 16, false, 4, 0, 0, [], [.string ⟨#[]⟩]⟩),
  (12, ⟨1, 8, false, 5, 0, 0, [], [.int .u64 0]⟩),
  (13, ⟨2, 24, true, 3, 0, 0, [(0, 1), (1, 1)], [.string ⟨#[]⟩, .int .u64 0]⟩),
  (14, ⟨2, 24, true, 3, 0, 0, [(0, 1), (1, 1)], [.string ⟨#[]⟩, .int .u64 0]⟩),
  (15, ⟨1, 8, false, 7, 75, 0, [], [.pointer none]⟩),
  (16, ⟨1, 8, false, 7, 78, 0, [], [.pointer none]⟩),
  (17, ⟨1, 8, false, 7, 87, 0, [], [.pointer none]⟩),
  (18, ⟨1, 8, true, 3, 0, 0, [(0, 1)], [.pointer none]⟩),
  (19, ⟨1, 8, true, 3, 0, 0, [(0, 1)], [.pointer none]⟩),
  (20, ⟨1, 16, false, 0, 0, 0, [], [.nilIface]⟩),
  (21, ⟨1, 4, false, 5, 0, 0, [], [.int .i32 0]⟩),
  (22, ⟨1, 24, false, 1, 29, 0, [], [.slice none 0 0]⟩),
  (23, ⟨1, 8, false, 8, 0, 0, [], [.nilFunc]⟩),
  (24, ⟨1, 24, false, 1, 39, 0, [], [.slice none 0 0]⟩),
  (25, ⟨3, 56, true, 3, 0, 0, [(0, 1), (1, 1), (2, 1)], [.string ⟨#[]⟩, .string ⟨#[]⟩, .slice none 0 0]⟩),
  (26, ⟨3, 56, true, 3, 0, 0, [(0, 1), (1, 1), (2, 1)], [.string ⟨#[]⟩, .string ⟨#[]⟩, .slice none 0 0]⟩),
  (27, ⟨1, 8, false, 8, 0, 0, [], [.nilFunc]⟩),
  (28, ⟨3, 32, true, 3, 0, 0, [(0, 1), (1, 1), (2, 1)], [.int .i64 0, .int .i64 0, .string ⟨#[]⟩]⟩),
  (29, ⟨3, 32, true, 3, 0, 0, [(0, 1), (1, 1), (2, 1)], [.int .i64 0, .int .i64 0, .string ⟨#[]⟩]⟩),
  (31, ⟨1, 8, false, 8, 0, 0, [], [.nilFunc]⟩),
  (33, ⟨1, 8, false, 8, 0, 0, [], [.nilFunc]⟩),
  (34, ⟨1, 8, false, 8, 0, 0, [], [.nilFunc]⟩),
  (35, ⟨1, 8, false, 8, 0, 0, [], [.nilFunc]⟩),
  (36, ⟨1, 8, false, 8, 0, 0, [], [.nilFunc]⟩),
  (37, ⟨1, 8, false, 8, 0, 0, [], [.nilFunc]⟩),
  (38, ⟨3, 24, true, 3, 0, 0, [(0, 1), (1, 1), (2, 1)], [.bool false, .int .i64 0, .int .i64 0]⟩),
  (39, ⟨3, 24, true, 3, 0, 0, [(0, 1), (1, 1), (2, 1)], [.bool false, .int .i64 0, .int .i64 0]⟩),
  (40, ⟨1, 8, false, 8, 0, 0, [], [.nilFunc]⟩),
  (41, ⟨1, 24, false, 1, 9, 0, [], [.slice none 0 0]⟩),
  (42, ⟨1, 24, false, 1, 3, 0, [], [.slice none 0 0]⟩),
  (43, ⟨1, 24, false, 1, 44, 0, [], [.slice none 0 0]⟩),
  (44, ⟨3, 3, true, 2, 5, 3, [], [.int .u8 0, .int .u8 0, .int .u8 0]⟩),
  (45, ⟨1, 8, false, 8, 0, 0, [], [.nilFunc]⟩),
  (46, ⟨1, 8, false, 8, 0, 0, [], [.nilFunc]⟩),
  (47, ⟨1, 8, false, 8, 0, 0, [], [.nilFunc]⟩),
  (48, ⟨1, 8, false, 8, 0, 0, [], [.nilFunc]⟩),
  (49, ⟨1, 8, false, 8, 0, 0, [], [.nilFunc]⟩),
  (50, ⟨1, 8, false, 8, 0, 0, [], [.nilFunc]⟩),
  (51, ⟨1, 8, false, 8, 0, 0, [], [.nilFunc]⟩),
  (52, ⟨1, 8, false, 8, 0, 0, [], [.nilFunc]⟩),
  (53, ⟨1, 8, false, 7, 56, 0, [], [.pointer none]⟩),
  (54, ⟨1, 24, false, 1, 5, 0, [], [.slice none 0 0]⟩),
  (55, ⟨2, 32, true, 3, 0, 0, [(0, 1), (1, 1)], [.pointer none, .slice none 0 0]⟩),
  (56, ⟨2, 32, true, 3, 0, 0, [(0, 1), (1, 1)], [.pointer none, .slice none 0 0]⟩),
  (57, ⟨1, 8, false, 8, 0, 0, [], [.nilFunc]⟩),
  (58, ⟨1, 8, false, 8, 0, 0, [], [.nilFunc]⟩),
  (59, ⟨1, 8, false, 8, 0, 0, [], [.nilFunc]⟩),
  (60, ⟨1, 16, false, 0, 0, 0, [], [.nilIface]⟩),
  (61, ⟨1, 16, false, 0, 0, 0, [], [.nilIface]⟩),
  (63, ⟨1, 8, false, 8, 0, 0, [], [.nilFunc]⟩),
  (64, ⟨1, 8, false, 8, 0, 0, [], [.nilFunc]⟩),
  (65, ⟨1, 8, false, 8, 0, 0, [], [.nilFunc]⟩),
  (66, ⟨1, 8, false, 8, 0, 0, [], [.nilFunc]⟩),
  (67, ⟨1, 8, false, 8, 0, 0, [], [.nilFunc]⟩),
  (68, ⟨1, 8, false, 8, 0, 0, [], [.nilFunc]⟩),
  (69, ⟨1, 8, false, 8, 0, 0, [], [.nilFunc]⟩),
  (70, ⟨1, 8, false, 8, 0, 0, [], [.nilFunc]⟩),
  (71, ⟨1, 8, false, 7, 5, 0, [], [.pointer none]⟩),
  (72, ⟨1, 8, false, 0, 0, 0, [], [.pointer none]⟩),
  (73, ⟨1, 8, false, 8, 0, 0, [], [.nilFunc]⟩),
  (74, ⟨4, 40, true, 3, 0, 0, [(0, 1), (1, 1), (2, 1), (3, 1)], [.pointer none, .pointer none, .pointer none, .string ⟨#[]⟩]⟩),
  (75, ⟨4, 40, true, 3, 0, 0, [(0, 1), (1, 1), (2, 1), (3, 1)], [.pointer none, .pointer none, .pointer none, .string ⟨#[]⟩]⟩),
  (76, ⟨0, 0, true, 2, 16, 0, [], []⟩),
  (77, ⟨0, 0, true, 3, 0, 0, [(0, 0)], []⟩),
  (78, ⟨0, 0, true, 3, 0, 0, [(0, 0)], []⟩),
  (79, ⟨1, 8, false, 8, 0, 0, [], [.nilFunc]⟩),
  (80, ⟨1, 4, false, 5, 0, 0, [], [.int .u32 0]⟩),
  (81, ⟨1, 1, false, 6, 0, 0, [], [.int .u8 0]⟩),
  (82, ⟨1, 1, false, 6, 0, 0, [], [.int .u8 0]⟩),
  (83, ⟨1, 8, false, 8, 0, 0, [], [.nilFunc]⟩),
  (84, ⟨1, 4, false, 5, 0, 0, [], [.int .i32 0]⟩),
  (85, ⟨1, 4, false, 5, 0, 0, [], [.int .i32 0]⟩),
  (86, ⟨11, 48, true, 3, 0, 0, [(0, 1), (1, 1), (2, 1), (3, 1), (4, 1), (5, 1), (6, 1), (7, 1), (8, 1), (9, 1), (10, 1)], [.int .u64 0, .int .u64 0, .int .u32 0, .int .u8 0, .int .u8 0, .int .u8 0, .int .u8 0, .nilFunc, .pointer none, .int .i32 0, .int .i32 0]⟩),
  (87, ⟨11, 48, true, 3, 0, 0, [(0, 1), (1, 1), (2, 1), (3, 1), (4, 1), (5, 1), (6, 1), (7, 1), (8, 1), (9, 1), (10, 1)], [.int .u64 0, .int .u64 0, .int .u32 0, .int .u8 0, .int .u8 0, .int .u8 0, .int .u8 0, .nilFunc, .pointer none, .int .i32 0, .int .i32 0]⟩)]
def fnL : List Nat := [5, 7, 8, 9, 11, 12, 13, 15, 16, 17, 18, 19, 21, 23, 25, 27, 28, 29, 30, 32]
def xtL : List (Nat × Nat) := [(14, 7), (22, 5), (24, 6), (4294967352, 1005)]
def plL : List (Nat × List (Nat × List Stage)) := [
  (5, [(9, [⟨[0, 1, 2, 3, 4, 9], [], [9], some 5⟩, ⟨[6, 7, 8], [], [], some 10⟩, ⟨[11], [8], [], none⟩]), (10, [⟨[0, 1, 2, 3, 5, 6, 7, 8], [], [], some 4⟩, ⟨[9, 10, 11, 12, 13, 14, 15, 16, 17, 18, 19, 20], [5, 6, 7, 8], [], none⟩])]),
  (9, [(1, [⟨[0, 1, 2, 3, 4], [], [], some 5⟩, ⟨[], [0, 1, 2, 3], [], some 6⟩, ⟨[7], [], [], none⟩]), (2, [⟨[0, 1, 3, 4, 6, 7], [], [], some 2⟩, ⟨[], [3, 4, 6, 7], [], some 5⟩, ⟨[], [6, 7], [], some 8⟩, ⟨[9], [], [], some 10⟩, ⟨[11], [], [], none⟩]), (3, [⟨[0, 1, 3, 4, 5, 6, 8, 9], [], [], some 2⟩, ⟨[], [3, 4, 5, 6, 8, 9], [], some 7⟩, ⟨[], [8, 9], [], some 10⟩, ⟨[11], [], [], some 12⟩, ⟨[13], [], [], none⟩])]),
  (11, [(4, [⟨[0, 1, 3, 4, 5, 6, 7, 8, 9], [], [], some 2⟩, ⟨[10], [3, 4, 5, 6, 7, 8, 9], [], some 11⟩, ⟨[], [], [], none⟩])]),
  (19, [(3, [⟨[0, 1, 2, 3, 4, 5, 6, 7], [], [], some 8⟩, ⟨[], [0, 1, 2, 3, 4, 5, 6], [], some 9⟩, ⟨[], [0], [], some 10⟩, ⟨[11], [], [], none⟩])]),
  (25, [(1, [⟨[0, 1, 2, 3, 4, 5, 6, 7, 8, 9], [], [], some 10⟩, ⟨[11], [4, 5, 6, 7], [], some 12⟩, ⟨[13, 14], [], [], none⟩])]),
  (32, [(4, [⟨[0, 1, 2, 3, 4, 5, 6, 7, 8, 9, 10, 11], [], [], none⟩])])]

def env (P : Program) : Env := envOf P tyL fnL plL xtL

theorem tys : tysOk Try.prog tyL := by unfold tysOk; kernel_rfl
theorem mixed : Try.prog.follows .mixedOrders = true := by kernel_rfl
theorem fns : (fnsOf Try.prog fnL).all (fnOk (env Try.prog)) = true := by kernel_rfl
theorem own : ownKnob Try.prog.godebug = none := by kernel_rfl


theorem ok : EnvOk (env Try.prog) := env_okB tys mixed fns (fun g hg => by simp [xtL] at hg) (fun g hg => by simp [xtL] at hg) (fun g hg => by simp [xtL] at hg) (fun g hg => by simp [xtL] at hg) (T0 := 56) (e0 := 5) (by kernel_rfl) (fun g hg => by
    have e : g = 22 := by simpa [xtL] using hg
    subst e
    exact writes) (fun g hg => by
    have e : g = 24 := by simpa [xtL] using hg
    subst e
    exact says) (fun g hg => by
    have e : g = 14 := by simpa [xtL] using hg
    subst e
    exact clones)

theorem here : (tget (env Try.prog).ff 5).isSome = true := by kernel_rfl

set_option maxRecDepth 100000 in
theorem runs : callK (env Try.prog) 1000000 1000 5 [] ⟨.nil, 0⟩ kTrue = True := by kernel_rfl

theorem walk (w : World) : Calls Try.prog 5 #[] w fun e w' => e = .returned (.bool true) ∧ Below w.heap.size w w' := by
  obtain ⟨fn, hfn⟩ := Option.isSome_iff_exists.1 here
  exact law_fast ok hfn (by unfold unkU; omega) runs w

set_option maxRecDepth 100000 in
theorem lifted (os : Os) (started : os.Started) (H : Type) (enc : TypeId × Value → H) :
    ReturnsInHanded {} Try.checked os 5 .any (Rows.pieceFormsSpec.pre6 enc Try.prog Try.f5 Rows.pieceFormsRow.domain false) (Rows.pieceFormsSpec.post enc Try.prog Try.f5 false true false false) := by
  refine returnsInHanded_of_change (C := Try.checked) own started (by kernel_rfl) Try.func5
    (ChangeSpec.witness6 (enc := enc) (C := Try.checked) false ⟨#[], #[], []⟩ 8 (by kernel_rfl) (by kernel_rfl) (by kernel_rfl) (by kernel_rfl)) ?_
  intro W base args ds gs before hval0 hW hcnd _
  have hW' := hW
  obtain ⟨p, q, hA0, hV, rfl, hfz, hnd⟩ := hW
  have hA : DataW.TrodAll enc Try.prog W 0 (fun _ => true) true Try.f5.params.toList args.toList ds p := hA0
  rw [Try.params5] at hA
  obtain ⟨rfl, rfl, rfl⟩ := trodAll_none hA
  obtain ⟨rfl, rfl⟩ := trodVars_none hV
  clear hA0 hval0
  simp only [List.append_nil] at hW'
  refine (walk W).mono fun e W' ⟨he, bel⟩ => ?_
  subst he
  exact ⟨_, rfl, _, _, _, [], [], [], hW', trodAll_mk1 (shut_bool Try.underlying4 _), trodAll_mk0, rfl, bel.frame _, fun h => by cases h⟩

theorem over : Rows.pieceFormsRow.holds Try.pinned (OpenSpec.ofChange Rows.pieceFormsSpec) :=
  OpenClaim.holds_of_wide 5 Try.f5 rfl rfl rfl rfl rfl rfl rfl ⟨rfl, rfl, rfl, rfl, rfl⟩ rfl rfl rfl rfl rfl (by kernel_rfl) Try.func5 (by kernel_rfl)
    (of_decide_eq_true (by kernel_rfl)) (by unfold Func.isWrapper; first | (rw [if_pos (by decide +kernel)]; kernel_rfl) | (rw [if_neg (by decide +kernel)]; exact ⟨rfl, rfl⟩))
    (fun os started H enc _ => lifted os started H enc)
end Forms

theorem PieceForms_holds : Rows.PieceFormsSaid := Forms.over
#print axioms PieceForms_holds
end Go.Proofs.Ytkdjmdcnfbolkaa
