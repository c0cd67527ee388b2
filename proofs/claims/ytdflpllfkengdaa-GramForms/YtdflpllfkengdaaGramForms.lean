/-
  The law GramForms returns true, in whatever world it is called; nothing that was there is changed. No conditions.
  How: the call is reckoned by an evaluator over named memory (the texts Ev..), which is proved right for every world, every order that is left open and every capacity; the kernel runs it.
-/
import Derived.Test.YtdflpllfkengdaaRows
import Derived.Test.YtdflpllfkengdaaEvTab
import Derived.Test.YtdflpllfkengdaaEvFast4
import Derived.WalkKit
import Derived.ProofKit
import Derived.OpenShut
import Derived.Below
namespace Go.Proofs.Ytdflpllfkengdaa
open Go.ChangeShapes Go.WideShapes Go.ChangeAt Go.RowKit Go.Ev
namespace Forms
def tyL : List (Nat × TI) := [
  (1, ⟨1, 8, false, 8, 0, 0, [], [.nilFunc]⟩),
  (2, ⟨1, 8, false, 5, 0, 0, [], [.int .i64 0]⟩),
  (3, ⟨1, 8, false, 5, 0, 0, [], [.int .i64 0]⟩),
  (4, ⟨1, 1, false, 9, 0, 0, [], [.bool false]⟩),
  (5, ⟨1, 1, false, 6, 0, 0, [], [.int .u8 0]⟩),
  (6, ⟨1, 1, false, 6, 0, 0, [], [.int .u8 0]⟩),
  (7, ⟨4, 24, true, 3, 0, 0, [(0, 1), (1, 1), (2, 1), (3, 1)], [.int .i64 0, .int .i64 0, .bool false, .int .u8 0]⟩),
  (8, ⟨4, 24, true, 3, 0, 0, [(0, 1), (1, 1), (2, 1), (3, 1)], [.int .i64 0, .int .i64 0, .bool false, .int .u8 0]⟩),
  (9, ⟨1, 16, false, 4, 0, 0, [], [.string ⟨#[]⟩]⟩),
  (10, ⟨1, 16, false, 4, 0, 0, [], [.string ⟨#[]⟩]⟩),
  (11, ⟨1, 16, false, 4, 0, 0, [], [.string ⟨#[]⟩]⟩),
  (12, ⟨1, 8, false, 5, 0, 0, [], [.int .u64 0]⟩),
  (13, ⟨2, 24, true, 3, 0, 0, [(0, 1), (1, 1)], [.string ⟨#[]⟩, .int .u64 0]⟩),
  (14, ⟨2, 24, true, 3, 0, 0, [(0, 1), (1, 1)], [.string ⟨#[]⟩, .int .u64 0]⟩),
  (15, ⟨1, 8, false, 7, 106, 0, [], [.pointer none]⟩),
  (16, ⟨1, 8, false, 7, 109, 0, [], [.pointer none]⟩),
  (17, ⟨1, 8, false, 7, 119, 0, [], [.pointer none]⟩),
  (18, ⟨1, 8, true, 3, 0, 0, [(0, 1)], [.pointer none]⟩),
  (19, ⟨1, 8, true, 3, 0, 0, [(0, 1)], [.pointer none]⟩),
  (20, ⟨1, 16, false, 0, 0, 0, [], [.nilIface]⟩),
  (21, ⟨1, 4, false, 5, 0, 0, [], [.int .i32 0]⟩),
  (22, ⟨1, 24, false, 1, 34, 0, [], [.slice none 0 0]⟩),
  (23, ⟨1, 24, false, 1, 37, 0, [], [.slice none 0 0]⟩),
  (24, ⟨1, 24, false, 1, 41, 0, [], [.slice none 0 0]⟩),
  (25, ⟨3, 72, true, 3, 0, 0, [(0, 1), (1, 1), (2, 1)], [.slice none 0 0, .slice none 0 0, .slice none 0 0]⟩),
  (26, ⟨3, 72, true, 3, 0, 0, [(0, 1), (1, 1), (2, 1)], [.slice none 0 0, .slice none 0 0, .slice none 0 0]⟩),
  (27, ⟨1, 24, false, 1, 5, 0, [], [.slice none 0 0]⟩),
  (28, ⟨1, 8, false, 8, 0, 0, [], [.nilFunc]⟩),
  (29, ⟨1, 8, false, 8, 0, 0, [], [.nilFunc]⟩),
  (30, ⟨1, 8, false, 7, 53, 0, [], [.pointer none]⟩),
  (31, ⟨1, 8, false, 8, 0, 0, [], [.nilFunc]⟩),
  (32, ⟨1, 8, false, 8, 0, 0, [], [.nilFunc]⟩),
  (33, ⟨3, 40, true, 3, 0, 0, [(0, 1), (1, 1), (2, 1)], [.string ⟨#[]⟩, .string ⟨#[]⟩, .bool false]⟩),
  (34, ⟨3, 40, true, 3, 0, 0, [(0, 1), (1, 1), (2, 1)], [.string ⟨#[]⟩, .string ⟨#[]⟩, .bool false]⟩),
  (35, ⟨1, 24, false, 1, 9, 0, [], [.slice none 0 0]⟩),
  (36, ⟨3, 64, true, 3, 0, 0, [(0, 1), (1, 1), (2, 1)], [.string ⟨#[]⟩, .slice none 0 0, .slice none 0 0]⟩),
  (37, ⟨3, 64, true, 3, 0, 0, [(0, 1), (1, 1), (2, 1)], [.string ⟨#[]⟩, .slice none 0 0, .slice none 0 0]⟩),
  (38, ⟨1, 24, false, 1, 44, 0, [], [.slice none 0 0]⟩),
  (39, ⟨1, 24, false, 1, 64, 0, [], [.slice none 0 0]⟩),
  (40, ⟨3, 56, true, 3, 0, 0, [(0, 1), (1, 1), (2, 1)], [.int .i64 0, .slice none 0 0, .slice none 0 0]⟩),
  (41, ⟨3, 56, true, 3, 0, 0, [(0, 1), (1, 1), (2, 1)], [.int .i64 0, .slice none 0 0, .slice none 0 0]⟩),
  (42, ⟨1, 8, false, 7, 41, 0, [], [.pointer none]⟩),
  (43, ⟨2, 16, true, 3, 0, 0, [(0, 1), (1, 1)], [.bool false, .int .i64 0]⟩),
  (44, ⟨2, 16, true, 3, 0, 0, [(0, 1), (1, 1)], [.bool false, .int .i64 0]⟩),
  (45, ⟨1, 8, false, 8, 0, 0, [], [.nilFunc]⟩),
  (46, ⟨1, 24, false, 1, 26, 0, [], [.slice none 0 0]⟩),
  (47, ⟨1, 8, false, 8, 0, 0, [], [.nilFunc]⟩),
  (48, ⟨1, 24, false, 1, 3, 0, [], [.slice none 0 0]⟩),
  (49, ⟨1, 8, false, 8, 0, 0, [], [.nilFunc]⟩),
  (50, ⟨1, 8, false, 8, 0, 0, [], [.nilFunc]⟩),
  (51, ⟨1, 8, false, 8, 0, 0, [], [.nilFunc]⟩),
  (52, ⟨2, 32, true, 3, 0, 0, [(0, 1), (1, 1)], [.slice none 0 0, .int .i64 0]⟩),
  (53, ⟨2, 32, true, 3, 0, 0, [(0, 1), (1, 1)], [.slice none 0 0, .int .i64 0]⟩),
  (54, ⟨1, 8, false, 8, 0, 0, [], [.nilFunc]⟩),
  (55, ⟨1, 8, false, 8, 0, 0, [], [.nilFunc]⟩),
  (56, ⟨1, 24, false, 1, 58, 0, [], [.slice none 0 0]⟩),
  (57, ⟨4, 56, true, 3, 0, 0, [(0, 1), (1, 1), (2, 1), (3, 1)], [.int .i64 0, .int .i64 0, .string ⟨#[]⟩, .slice none 0 0]⟩),
  (58, ⟨4, 56, true, 3, 0, 0, [(0, 1), (1, 1), (2, 1), (3, 1)], [.int .i64 0, .int .i64 0, .string ⟨#[]⟩, .slice none 0 0]⟩),
  (59, ⟨1, 24, false, 1, 61, 0, [], [.slice none 0 0]⟩),
  (60, ⟨8, 104, true, 3, 0, 0, [(0, 1), (1, 4), (5, 1), (6, 1), (7, 1)], [.int .i64 0, .int .i64 0, .int .i64 0, .string ⟨#[]⟩, .slice none 0 0, .int .i64 0, .int .i64 0, .slice none 0 0]⟩),
  (61, ⟨8, 104, true, 3, 0, 0, [(0, 1), (1, 4), (5, 1), (6, 1), (7, 1)], [.int .i64 0, .int .i64 0, .int .i64 0, .string ⟨#[]⟩, .slice none 0 0, .int .i64 0, .int .i64 0, .slice none 0 0]⟩),
  (62, ⟨1, 8, false, 8, 0, 0, [], [.nilFunc]⟩),
  (63, ⟨10, 120, true, 3, 0, 0, [(0, 1), (1, 1), (2, 8)], [.int .i64 0, .int .i64 0, .int .i64 0, .int .i64 0, .int .i64 0, .string ⟨#[]⟩, .slice none 0 0, .int .i64 0, .int .i64 0, .slice none 0 0]⟩),
  (64, ⟨10, 120, true, 3, 0, 0, [(0, 1), (1, 1), (2, 8)], [.int .i64 0, .int .i64 0, .int .i64 0, .int .i64 0, .int .i64 0, .string ⟨#[]⟩, .slice none 0 0, .int .i64 0, .int .i64 0, .slice none 0 0]⟩),
  (65, ⟨1, 8, false, 8, 0, 0, [], [.nilFunc]⟩),
  (66, ⟨1, 8, false, 8, 0, 0, [], [.nilFunc]⟩),
  (67, ⟨1, 24, false, 1, 34, 0, [], [.slice none 0 0]⟩),
  (68, ⟨1, 24, false, 1, 37, 0, [], [.slice none 0 0]⟩),
  (69, ⟨1, 24, false, 1, 41, 0, [], [.slice none 0 0]⟩),
  (70, ⟨3, 72, true, 3, 0, 0, [(0, 1), (1, 1), (2, 1)], [.slice none 0 0, .slice none 0 0, .slice none 0 0]⟩),
  (71, ⟨3, 72, true, 3, 0, 0, [(0, 1), (1, 1), (2, 1)], [.slice none 0 0, .slice none 0 0, .slice none 0 0]⟩),
  (72, ⟨1, 8, false, 8, 0, 0, [], [.nilFunc]⟩),
  (73, ⟨1, 8, false, 8, 0, 0, [], [.nilFunc]⟩),
  (74, ⟨1, 8, false, 8, 0, 0, [], [.nilFunc]⟩),
  (75, ⟨1, 8, false, 8, 0, 0, [], [.nilFunc]⟩),
  (76, ⟨1, 8, false, 8, 0, 0, [], [.nilFunc]⟩),
  (77, ⟨1, 8, false, 8, 0, 0, [], [.nilFunc]⟩),
  (78, ⟨1, 8, false, 8, 0, 0, [], [.nilFunc]⟩),
  (79, ⟨1, 8, false, 8, 0, 0, [], [.nilFunc]⟩),
  (80, ⟨1, 8, false, 8, 0, 0, [], [.nilFunc]⟩),
  (81, ⟨1, 8, false, 8, 0, 0, [], [.nilFunc]⟩),
  (82, ⟨1, 8, false, 8, 0, 0, [], [.nilFunc]⟩),
  (83, ⟨1, 8, false, 8, 0, 0, [], [.nilFunc]⟩),
  (84, ⟨1, 8, false, 8, 0, 0, [], [.nilFunc]⟩),
  (85, ⟨1, 8, false, 8, 0, 0, [], [.nilFunc]⟩),
  (86, ⟨1, 8, false, 8, 0, 0, [], [.nilFunc]⟩),
  (87, ⟨1, 8, false, 8, 0, 0, [], [.nilFunc]⟩),
  (88, ⟨1, 8, false, 8, 0, 0, [], [.nilFunc]⟩),
  (89, ⟨1, 8, false, 8, 0, 0, [], [.nilFunc]⟩),
  (90, ⟨1, 8, false, 8, 0, 0, [], [.nilFunc]⟩),
  (91, ⟨1, 24, false, 1, 9, 0, [], [.slice none 0 0]⟩),
  (92, ⟨1, 8, false, 8, 0, 0, [], [.nilFunc]⟩),
  (93, ⟨1, 8, false, 8, 0, 0, [], [.nilFunc]⟩),
  (94, ⟨1, 8, false, 8, 0, 0, [], [.nilFunc]⟩),
  (95, ⟨1, 24, false, 1, 44, 0, [], [.slice none 0 0]⟩),
  (96, ⟨1, 8, false, 8, 0, 0, [], [.nilFunc]⟩),
  (97, ⟨1, 8, false, 8, 0, 0, [], [.nilFunc]⟩),
  (98, ⟨1, 8, false, 8, 0, 0, [], [.nilFunc]⟩),
  (99, ⟨1, 8, false, 8, 0, 0, [], [.nilFunc]⟩),
  (100, ⟨1, 8, false, 8, 0, 0, [], [.nilFunc]⟩),
  (101, ⟨1, 24, false, 1, 35, 0, [], [.slice none 0 0]⟩),
  (102, ⟨1, 8, false, 8, 0, 0, [], [.nilFunc]⟩),
  (103, ⟨1, 8, false, 8, 0, 0, [], [.nilFunc]⟩),
  (104, ⟨1, 8, false, 8, 0, 0, [], [.nilFunc]⟩),
  (105, ⟨4, 40, true, 3, 0, 0, [(0, 1), (1, 1), (2, 1), (3, 1)], [.pointer none, .pointer none, .pointer none, .string ⟨#[]⟩]⟩),
  (106, ⟨4, 40, true, 3, 0, 0, [(0, 1), (1, 1), (2, 1), (3, 1)], [.pointer none, .pointer none, .pointer none, .string ⟨#[]⟩]⟩),
  (107, ⟨0, 0, true, 2, 16, 0, [], []⟩),
  (108, ⟨0, 0, true, 3, 0, 0, [(0, 0)], []⟩),
  (109, ⟨0, 0, true, 3, 0, 0, [(0, 0)], []⟩),
  (110, ⟨1, 8, false, 8, 0, 0, [], [.nilFunc]⟩),
  (111, ⟨1, 4, false, 5, 0, 0, [], [.int .u32 0]⟩),
  (112, ⟨1, 1, false, 6, 0, 0, [], [.int .u8 0]⟩),
  (113, ⟨1, 1, false, 6, 0, 0, [], [.int .u8 0]⟩),
  (114, ⟨1, 8, false, 8, 0, 0, [], [.nilFunc]⟩),
  (115, ⟨1, 8, false, 7, 5, 0, [], [.pointer none]⟩),
  (116, ⟨1, 4, false, 5, 0, 0, [], [.int .i32 0]⟩),
  (117, ⟨1, 4, false, 5, 0, 0, [], [.int .i32 0]⟩),
  (118, ⟨11, 48, true, 3, 0, 0, [(0, 1), (1, 1), (2, 1), (3, 1), (4, 1), (5, 1), (6, 1), (7, 1), (8, 1), (9, 1), (10, 1)], [.int .u64 0, .int .u64 0, .int .u32 0, .int .u8 0, .int .u8 0, .int .u8 0, .int .u8 0, .nilFunc, .pointer none, .int .i32 0, .int .i32 0]⟩),
  (119, ⟨11, 48, true, 3, 0, 0, [(0, 1), (1, 1), (2, 1), (3, 1), (4, 1), (5, 1), (6, 1), (7, 1), (8, 1), (9, 1), (10, 1)], [.int .u64 0, .int .u64 0, .int .u32 0, .int .u8 0, .int .u8 0, .int .u8 0, .int .u8 0, .nilFunc, .pointer none, .int .i32 0, .int .i32 0]⟩),
  (120, ⟨1, 8, false, 8, 0, 0, [], [.nilFunc]⟩),
  (121, ⟨1, 8, false, 8, 0, 0, [], [.nilFunc]⟩),
  (122, ⟨1, 8, false, 8, 0, 0, [], [.nilFunc]⟩),
  (123, ⟨1, 8, false, 8, 0, 0, [], [.nilFunc]⟩),
  (124, ⟨1, 8, false, 8, 0, 0, [], [.nilFunc]⟩),
  (125, ⟨1, 8, false, 0, 0, 0, [], [.pointer none]⟩),
  (126, ⟨1, 8, false, 8, 0, 0, [], [.nilFunc]⟩)]
def fnL : List Nat := [4, 6, 10, 11, 13, 15, 19, 20, 21, 22, 23, 25, 26, 27, 28, 29, 32, 33, 36, 37, 38, 39, 40, 41, 42, 43, 44, 46, 47, 48, 49, 50, 51, 52, 53, 54, 55, 56, 57, 58, 59, 60, 61]
def xtL : List (Nat × Nat) := []
def plL : List (Nat × List (Nat × List Stage)) := [
  (4, [(9, [⟨[0, 1, 2, 3, 4, 5, 6, 7, 8, 9, 10, 11, 12, 13], [], [], some 14⟩, ⟨[15, 16], [2, 3], [], some 17⟩, ⟨[], [], [], none⟩]), (23, [⟨[0, 1, 2, 3, 4, 5, 6], [], [], some 7⟩, ⟨[], [], [], none⟩])]),
  (10, [(7, [⟨[0, 1, 4, 5, 10], [], [], some 2⟩, ⟨[], [0, 1, 4, 5, 10], [], some 3⟩, ⟨[6], [0, 1, 4, 5, 10], [6], some 7⟩, ⟨[8], [0, 1, 4, 5, 10], [6], some 9⟩, ⟨[], [0, 1, 4, 5, 8, 10], [6], some 11⟩, ⟨[12, 13, 14], [0, 1, 4, 5, 8, 10], [6, 12], some 15⟩, ⟨[16], [0, 1, 4, 5, 8, 10, 13, 14], [6, 12], some 17⟩, ⟨[], [0, 1, 4, 5, 8, 10, 13, 14, 16], [6, 12], some 18⟩, ⟨[19, 20, 21, 22, 23, 24], [0, 1, 4, 5, 8, 10, 13, 14, 16], [], some 25⟩, ⟨[26], [], [], some 27⟩, ⟨[], [], [], none⟩])]),
  (25, [(6, [⟨[0, 1, 2, 3, 4, 5, 6, 7, 8], [], [], none⟩])]),
  (46, [(6, [⟨[0, 1, 2, 3, 4, 5, 6, 7, 8], [], [], none⟩])]),
  (47, [(6, [⟨[0, 1, 2, 3, 4, 5, 6, 7, 8], [], [], none⟩])])]

def env (P : Program) : Env := envOf P tyL fnL plL xtL

theorem tys : tysOk Try.prog tyL := by unfold tysOk; kernel_rfl
theorem mixed : Try.prog.follows .mixedOrders = true := by kernel_rfl
theorem fns : (fnsOf Try.prog fnL).all (fnOk (env Try.prog)) = true := by kernel_rfl
theorem own : ownKnob Try.prog.godebug = none := by kernel_rfl

theorem xts : ∀ g, (g, 1) ∈ xtL → ∀ a b w, (callFunc g #[.string a, .string b]).run Try.prog w = .ok (.value (.int .i64 (Extern.BytealgCompare.cmp a b))) w := by
  intro g hg
  simp [xtL] at hg

theorem xts3 : ∀ g, (g, 3) ∈ xtL → ∀ s c w, (callFunc g #[.string s, .int .u8 c]).run Try.prog w = .ok (.value (.int .i64 (idxB s c))) w := by
  intro g hg
  simp [xtL] at hg


theorem ok : EnvOk (env Try.prog) := env_ok tys mixed fns xts xts3 (fun g hg => by simp [xtL] at hg)

theorem here : (tget (env Try.prog).ff 4).isSome = true := by kernel_rfl

set_option maxRecDepth 100000 in
theorem runs : callK (env Try.prog) 1000000 1000 4 [] ⟨.nil, 0⟩ kTrue = True := by kernel_rfl

theorem walk (w : World) : Calls Try.prog 4 #[] w fun e w' => e = .returned (.bool true) ∧ Below w.heap.size w w' := by
  obtain ⟨fn, hfn⟩ := Option.isSome_iff_exists.1 here
  exact law_fast ok hfn (by unfold unkU; omega) runs w

set_option maxRecDepth 100000 in
theorem lifted (os : Os) (started : os.Started) (H : Type) (enc : TypeId × Value → H) :
    ReturnsInHanded {} Try.checked os 4 .any (Rows.gramFormsSpec.pre6 enc Try.prog Try.f4 Rows.gramFormsRow.domain false) (Rows.gramFormsSpec.post enc Try.prog Try.f4 false true false false) := by
  refine returnsInHanded_of_change (C := Try.checked) own started (by kernel_rfl) Try.func4
    (ChangeSpec.witness6 (enc := enc) (C := Try.checked) false ⟨#[], #[], []⟩ 8 (by kernel_rfl) (by kernel_rfl) (by kernel_rfl) (by kernel_rfl)) ?_
  intro W base args ds gs before hval0 hW hcnd _
  have hW' := hW
  obtain ⟨p, q, hA0, hV, rfl, hfz, hnd⟩ := hW
  have hA : DataW.TrodAll enc Try.prog W 0 (fun _ => true) true Try.f4.params.toList args.toList ds p := hA0
  rw [Try.params4] at hA
  obtain ⟨rfl, rfl, rfl⟩ := trodAll_none hA
  obtain ⟨rfl, rfl⟩ := trodVars_none hV
  clear hA0 hval0
  simp only [List.append_nil] at hW'
  refine (walk W).mono fun e W' ⟨he, bel⟩ => ?_
  subst he
  exact ⟨_, rfl, _, _, _, [], [], [], hW', trodAll_mk1 (shut_bool Try.underlying4 _), trodAll_mk0, rfl, bel.frame _, fun h => by cases h⟩

theorem over : Rows.gramFormsRow.holds Try.pinned (OpenSpec.ofChange Rows.gramFormsSpec) :=
  OpenClaim.holds_of_wide 4 Try.f4 rfl rfl rfl rfl rfl rfl rfl ⟨rfl, rfl, rfl, rfl, rfl⟩ rfl rfl rfl rfl rfl (by kernel_rfl) Try.func4 (by kernel_rfl)
    (of_decide_eq_true (by kernel_rfl)) (by unfold Func.isWrapper; first | (rw [if_pos (by decide +kernel)]; kernel_rfl) | (rw [if_neg (by decide +kernel)]; exact ⟨rfl, rfl⟩))
    (fun os started H enc _ => lifted os started H enc)
end Forms

theorem GramForms_holds : Rows.GramFormsSaid := Forms.over
#print axioms GramForms_holds
end Go.Proofs.Ytdflpllfkengdaa
