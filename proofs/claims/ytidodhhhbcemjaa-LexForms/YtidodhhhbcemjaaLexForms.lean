/-
  The law LexForms returns true, in whatever world it is called; nothing that was there is changed. No conditions.
  How: the call is reckoned by an evaluator over named memory (the texts Ev..), which is proved right for every world, every order that is left open and every capacity; the kernel runs it.
-/
import Derived.Test.YtidodhhhbcemjaaRows
import Derived.Test.YtidodhhhbcemjaaEvTab
import Derived.Test.YtidodhhhbcemjaaEvFast4
import Derived.WalkKit
import Derived.ProofKit
import Derived.OpenShut
import Derived.Below
namespace Go.Proofs.Ytidodhhhbcemjaa
open Go.ChangeShapes Go.WideShapes Go.ChangeAt Go.RowKit Go.Ev
namespace Forms
def tyL : List (Nat × TI) := [
  (1, ⟨1, 8, false, 8, 0, 0, [], [.nilFunc]⟩),
  (2, ⟨1, 8, false, 5, 0, 0, [], [.int .i64 0]⟩),
  (3, ⟨1, 8, false, 5, 0, 0, [], [.int .i64 0]⟩),
  (4, ⟨1, 1, false, 9, 0, 0, [], [.bool false]⟩),
  (5, ⟨1, 1, false, 6, 0, 0, [], [.int .u8 0]⟩),
  (6, ⟨1, 1, false, 6, 0, 0, [], [.int .u8 0]⟩),
  (7, ⟨4, 24, true, 3, 0, 0, [(0, 1), (1, 1), (2, 1), (3, 1)], [.int .i64 0, .int .i64 0, .bool false, .int .u8 0]⟩),
  (8, ⟨4, 24, true, 3, 0, 0, [(0, 1), (1, 1), (2, 1), (3, 1)], [.int .i64 0, .int .i64 0, .bool false, .int .u8 0]⟩),
  (9, ⟨1, 16, false, 4, 0, 0, [], [.string ⟨#[]⟩]⟩),
  (10, ⟨1, 16, false, 4, 0, 0, [], [.string ⟨#[]⟩]⟩),
  (11, ⟨1, 16, false, 4, 0, 0, [], [.string ⟨#[]⟩]⟩),
  (12, ⟨1, 8, false, 5, 0, 0, [], [.int .u64 0]⟩),
  (13, ⟨2, 24, true, 3, 0, 0, [(0, 1), (1, 1)], [.string ⟨#[]⟩, .int .u64 0]⟩),
  (14, ⟨2, 24, true, 3, 0, 0, [(0, 1), (1, 1)], [.string ⟨#[]⟩, .int .u64 0]⟩),
  (15, ⟨1, 8, false, 7, 171, 0, [], [.pointer none]⟩),
  (16, ⟨1, 8, false, 7, 174, 0, [], [.pointer none]⟩),
  (17, ⟨1, 8, false, 7, 184, 0, [], [.pointer none]⟩),
  (18, ⟨1, 8, true, 3, 0, 0, [(0, 1)], [.pointer none]⟩),
  (19, ⟨1, 8, true, 3, 0, 0, [(0, 1)], [.pointer none]⟩),
  (20, ⟨1, 16, false, 0, 0, 0, [], [.nilIface]⟩),
  (21, ⟨1, 4, false, 5, 0, 0, [], [.int .i32 0]⟩),
  (22, ⟨1, 24, false, 1, 5, 0, [], [.slice none 0 0]⟩),
  (23, ⟨1, 8, false, 8, 0, 0, [], [.nilFunc]⟩),
  (24, ⟨1, 24, false, 1, 45, 0, [], [.slice none 0 0]⟩),
  (25, ⟨1, 8, false, 7, 54, 0, [], [.pointer none]⟩),
  (26, ⟨1, 8, false, 8, 0, 0, [], [.nilFunc]⟩),
  (27, ⟨1, 8, false, 8, 0, 0, [], [.nilFunc]⟩),
  (28, ⟨1, 8, false, 8, 0, 0, [], [.nilFunc]⟩),
  (29, ⟨1, 24, false, 1, 57, 0, [], [.slice none 0 0]⟩),
  (31, ⟨1, 8, false, 8, 0, 0, [], [.nilFunc]⟩),
  (32, ⟨1, 24, false, 1, 88, 0, [], [.slice none 0 0]⟩),
  (34, ⟨1, 8, false, 8, 0, 0, [], [.nilFunc]⟩),
  (35, ⟨1, 8, false, 8, 0, 0, [], [.nilFunc]⟩),
  (36, ⟨1, 24, false, 1, 39, 0, [], [.slice none 0 0]⟩),
  (37, ⟨1, 8, false, 8, 0, 0, [], [.nilFunc]⟩),
  (38, ⟨3, 24, true, 3, 0, 0, [(0, 1), (1, 1), (2, 1)], [.int .i64 0, .int .i64 0, .int .i64 0]⟩),
  (39, ⟨3, 24, true, 3, 0, 0, [(0, 1), (1, 1), (2, 1)], [.int .i64 0, .int .i64 0, .int .i64 0]⟩),
  (41, ⟨1, 8, false, 8, 0, 0, [], [.nilFunc]⟩),
  (42, ⟨1, 8, false, 8, 0, 0, [], [.nilFunc]⟩),
  (43, ⟨1, 24, false, 1, 9, 0, [], [.slice none 0 0]⟩),
  (44, ⟨3, 40, true, 3, 0, 0, [(0, 1), (1, 1), (2, 1)], [.string ⟨#[]⟩, .string ⟨#[]⟩, .bool false]⟩),
  (45, ⟨3, 40, true, 3, 0, 0, [(0, 1), (1, 1), (2, 1)], [.string ⟨#[]⟩, .string ⟨#[]⟩, .bool false]⟩),
  (46, ⟨1, 8, false, 8, 0, 0, [], [.nilFunc]⟩),
  (47, ⟨1, 24, false, 1, 3, 0, [], [.slice none 0 0]⟩),
  (48, ⟨1, 24, false, 1, 47, 0, [], [.slice none 0 0]⟩),
  (49, ⟨1, 24, false, 1, 52, 0, [], [.slice none 0 0]⟩),
  (50, ⟨1, 8, false, 8, 0, 0, [], [.nilFunc]⟩),
  (51, ⟨2, 24, true, 3, 0, 0, [(0, 1), (1, 1)], [.int .i64 0, .string ⟨#[]⟩]⟩),
  (52, ⟨2, 24, true, 3, 0, 0, [(0, 1), (1, 1)], [.int .i64 0, .string ⟨#[]⟩]⟩),
  (53, ⟨2, 32, true, 3, 0, 0, [(0, 1), (1, 1)], [.slice none 0 0, .int .i64 0]⟩),
  (54, ⟨2, 32, true, 3, 0, 0, [(0, 1), (1, 1)], [.slice none 0 0, .int .i64 0]⟩),
  (55, ⟨1, 8, false, 8, 0, 0, [], [.nilFunc]⟩),
  (56, ⟨1, 8, false, 8, 0, 0, [], [.nilFunc]⟩),
  (57, ⟨1, 24, false, 1, 65, 0, [], [.slice none 0 0]⟩),
  (59, ⟨1, 8, false, 8, 0, 0, [], [.nilFunc]⟩),
  (60, ⟨1, 8, false, 8, 0, 0, [], [.nilFunc]⟩),
  (61, ⟨1, 24, false, 1, 102, 0, [], [.slice none 0 0]⟩),
  (62, ⟨1, 8, false, 8, 0, 0, [], [.nilFunc]⟩),
  (63, ⟨1, 24, false, 1, 107, 0, [], [.slice none 0 0]⟩),
  (64, ⟨2, 32, true, 3, 0, 0, [(0, 1), (1, 1)], [.int .i64 0, .slice none 0 0]⟩),
  (65, ⟨2, 32, true, 3, 0, 0, [(0, 1), (1, 1)], [.int .i64 0, .slice none 0 0]⟩),
  (66, ⟨1, 8, false, 8, 0, 0, [], [.nilFunc]⟩),
  (67, ⟨1, 8, false, 8, 0, 0, [], [.nilFunc]⟩),
  (68, ⟨1, 8, false, 8, 0, 0, [], [.nilFunc]⟩),
  (69, ⟨1, 24, false, 1, 4, 0, [], [.slice none 0 0]⟩),
  (70, ⟨1, 8, false, 8, 0, 0, [], [.nilFunc]⟩),
  (72, ⟨1, 8, false, 8, 0, 0, [], [.nilFunc]⟩),
  (73, ⟨1, 8, false, 7, 75, 0, [], [.pointer none]⟩),
  (74, ⟨3, 32, true, 3, 0, 0, [(0, 1), (1, 1), (2, 1)], [.string ⟨#[]⟩, .int .i64 0, .bool false]⟩),
  (75, ⟨3, 32, true, 3, 0, 0, [(0, 1), (1, 1), (2, 1)], [.string ⟨#[]⟩, .int .i64 0, .bool false]⟩),
  (76, ⟨1, 8, false, 8, 0, 0, [], [.nilFunc]⟩),
  (77, ⟨1, 8, false, 7, 85, 0, [], [.pointer none]⟩),
  (78, ⟨1, 8, false, 8, 0, 0, [], [.nilFunc]⟩),
  (79, ⟨1, 8, false, 10, 3, 91, [], [.map none]⟩),
  (80, ⟨1, 24, false, 1, 91, 0, [], [.slice none 0 0]⟩),
  (81, ⟨2, 32, true, 3, 0, 0, [(0, 1), (1, 1)], [.map none, .slice none 0 0]⟩),
  (82, ⟨2, 32, true, 3, 0, 0, [(0, 1), (1, 1)], [.map none, .slice none 0 0]⟩),
  (83, ⟨256, 256, true, 2, 4, 256, [], [.bool false, .bool false, .bool false, .bool false, .bool false, .bool false, .bool false, .bool false, .bool false, .bool false, .bool false, .bool false, .bool false, .bool false, .bool false, .bool false, .bool false, .bool false, .bool false, .bool false, .bool false, .bool false, .bool false, .bool false, .bool false, .bool false, .bool false, .bool false, .bool false, .bool false, .bool false, .bool false, .bool false, .bool false, .bool false, .bool false, .bool false, .bool false, .bool false, .bool false, .bool false, .bool false, .bool false, .bool false, .bool false, .bool false, .bool false, .bool false, .bool false, .bool false, .bool false, .bool false, .bool false, .bool false, .bool false, .bool false, .bool false, .bool false, .bool false, .bool false, .bool false, .bool false, .bool false, .bool false, .bool false, .bool false, .bool false, .bool false, .bool false, .bool false, .bool false, .bool false, .bool false, .bool false, .bool false, .bool false, .bool false, .bool false, .bool false, .bool false, .bool false, .bool false, .bool false, .bool false, .bool false, .bool false, .bool false, .bool false, .bool false, .bool false, .bool false, .bool false, .bool false, .bool false, .bool false, .bool false, .bool false, .bool false, .bool false, .bool false, .bool false, .bool false, .bool false, .bool false, .bool false, .bool false, .bool false, .bool false, .bool false, .bool false, .bool false, .bool false, .bool false, .bool false, .bool false, .bool false, .bool false, .bool false, .bool false, .bool false, .bool false, .bool false, .bool false, .bool false, .bool false, .bool false, .bool false, .bool false, .bool false, .bool false, .bool false, .bool false, .bool false, .bool false, .bool false, .bool false, .bool false, .bool false, .bool false, .bool false, .bool false, .bool false, .bool false, .bool false, .bool false, .bool false, .bool false, .bool false, .bool false, .bool false, .bool false, .bool false, .bool false, .bool false, .bool false, .bool false, .bool false, .bool false, .bool false, .bool false, .bool false, .bool false, .bool false, .bool false, .bool false, .bool false, .bool false, .bool false, .bool false, .bool false, .bool false, .bool false, .bool false, .bool false, .bool false, .bool false, .bool false, .bool false, .bool false, .bool false, .bool false, .bool false, .bool false, .bool false, .bool false, .bool false, .bool false, .bool false, .bool false, .bool false, .bool false, .bool false, .bool false, .bool false, .bool false, .bool false, .bool false, .bool false, .bool false, .bool false, .bool false, .bool false, .bool false, .bool false, .bool false, .bool false, .bool false, .bool false, .bool false, .bool false, .bool false, .bool false, .bool false, .bool false, .bool false, .bool false, .bool false, .bool false, .bool false, .bool false, .bool false, .bool false, .bool false, .bool false, .bool false, .bool false, .bool false, .bool false, .bool false, .bool false, .bool false, .bool false, .bool false, .bool false, .bool false, .bool false, .bool false, .bool false, .bool false, .bool false, .bool false, .bool false, .bool false, .bool false, .bool false, .bool false, .bool false, .bool false, .bool false, .bool false, .bool false, .bool false, .bool false, .bool false, .bool false, .bool false]⟩),
  (84, ⟨259, 312, true, 3, 0, 0, [(0, 1), (1, 256), (257, 2)], [.slice none 0 0, .bool false, .bool false, .bool false, .bool false, .bool false, .bool false, .bool false, .bool false, .bool false, .bool false, .bool false, .bool false, .bool false, .bool false, .bool false, .bool false, .bool false, .bool false, .bool false, .bool false, .bool false, .bool false, .bool false, .bool false, .bool false, .bool false, .bool false, .bool false, .bool false, .bool false, .bool false, .bool false, .bool false, .bool false, .bool false, .bool false, .bool false, .bool false, .bool false, .bool false, .bool false, .bool false, .bool false, .bool false, .bool false, .bool false, .bool false, .bool false, .bool false, .bool false, .bool false, .bool false, .bool false, .bool false, .bool false, .bool false, .bool false, .bool false, .bool false, .bool false, .bool false, .bool false, .bool false, .bool false, .bool false, .bool false, .bool false, .bool false, .bool false, .bool false, .bool false, .bool false, .bool false, .bool false, .bool false, .bool false, .bool false, .bool false, .bool false, .bool false, .bool false, .bool false, .bool false, .bool false, .bool false, .bool false, .bool false, .bool false, .bool false, .bool false, .bool false, .bool false, .bool false, .bool false, .bool false, .bool false, .bool false, .bool false, .bool false, .bool false, .bool false, .bool false, .bool false, .bool false, .bool false, .bool false, .bool false, .bool false, .bool false, .bool false, .bool false, .bool false, .bool false, .bool false, .bool false, .bool false, .bool false, .bool false, .bool false, .bool false, .bool false, .bool false, .bool false, .bool false, .bool false, .bool false, .bool false, .bool false, .bool false, .bool false, .bool false, .bool false, .bool false, .bool false, .bool false, .bool false, .bool false, .bool false, .bool false, .bool false, .bool false, .bool false, .bool false, .bool false, .bool false, .bool false, .bool false, .bool false, .bool false, .bool false, .bool false, .bool false, .bool false, .bool false, .bool false, .bool false, .bool false, .bool false, .bool false, .bool false, .bool false, .bool false, .bool false, .bool false, .bool false, .bool false, .bool false, .bool false, .bool false, .bool false, .bool false, .bool false, .bool false, .bool false, .bool false, .bool false, .bool false, .bool false, .bool false, .bool false, .bool false, .bool false, .bool false, .bool false, .bool false, .bool false, .bool false, .bool false, .bool false, .bool false, .bool false, .bool false, .bool false, .bool false, .bool false, .bool false, .bool false, .bool false, .bool false, .bool false, .bool false, .bool false, .bool false, .bool false, .bool false, .bool false, .bool false, .bool false, .bool false, .bool false, .bool false, .bool false, .bool false, .bool false, .bool false, .bool false, .bool false, .bool false, .bool false, .bool false, .bool false, .bool false, .bool false, .bool false, .bool false, .bool false, .bool false, .bool false, .bool false, .bool false, .bool false, .bool false, .bool false, .bool false, .bool false, .bool false, .bool false, .bool false, .bool false, .bool false, .bool false, .bool false, .bool false, .bool false, .bool false, .bool false, .bool false, .bool false, .bool false, .bool false, .bool false, .bool false, .bool false, .bool false, .bool false, .bool false, .map none, .slice none 0 0]⟩),
  (85, ⟨259, 312, true, 3, 0, 0, [(0, 1), (1, 256), (257, 2)], [.slice none 0 0, .bool false, .bool false, .bool false, .bool false, .bool false, .bool false, .bool false, .bool false, .bool false, .bool false, .bool false, .bool false, .bool false, .bool false, .bool false, .bool false, .bool false, .bool false, .bool false, .bool false, .bool false, .bool false, .bool false, .bool false, .bool false, .bool false, .bool false, .bool false, .bool false, .bool false, .bool false, .bool false, .bool false, .bool false, .bool false, .bool false, .bool false, .bool false, .bool false, .bool false, .bool false, .bool false, .bool false, .bool false, .bool false, .bool false, .bool false, .bool false, .bool false, .bool false, .bool false, .bool false, .bool false, .bool false, .bool false, .bool false, .bool false, .bool false, .bool false, .bool false, .bool false, .bool false, .bool false, .bool false, .bool false, .bool false, .bool false, .bool false, .bool false, .bool false, .bool false, .bool false, .bool false, .bool false, .bool false, .bool false, .bool false, .bool false, .bool false, .bool false, .bool false, .bool false, .bool false, .bool false, .bool false, .bool false, .bool false, .bool false, .bool false, .bool false, .bool false, .bool false, .bool false, .bool false, .bool false, .bool false, .bool false, .bool false, .bool false, .bool false, .bool false, .bool false, .bool false, .bool false, .bool false, .bool false, .bool false, .bool false, .bool false, .bool false, .bool false, .bool false, .bool false, .bool false, .bool false, .bool false, .bool false, .bool false, .bool false, .bool false, .bool false, .bool false, .bool false, .bool false, .bool false, .bool false, .bool false, .bool false, .bool false, .bool false, .bool false, .bool false, .bool false, .bool false, .bool false, .bool false, .bool false, .bool false, .bool false, .bool false, .bool false, .bool false, .bool false, .bool false, .bool false, .bool false, .bool false, .bool false, .bool false, .bool false, .bool false, .bool false, .bool false, .bool false, .bool false, .bool false, .bool false, .bool false, .bool false, .bool false, .bool false, .bool false, .bool false, .bool false, .bool false, .bool false, .bool false, .bool false, .bool false, .bool false, .bool false, .bool false, .bool false, .bool false, .bool false, .bool false, .bool false, .bool false, .bool false, .bool false, .bool false, .bool false, .bool false, .bool false, .bool false, .bool false, .bool false, .bool false, .bool false, .bool false, .bool false, .bool false, .bool false, .bool false, .bool false, .bool false, .bool false, .bool false, .bool false, .bool false, .bool false, .bool false, .bool false, .bool false, .bool false, .bool false, .bool false, .bool false, .bool false, .bool false, .bool false, .bool false, .bool false, .bool false, .bool false, .bool false, .bool false, .bool false, .bool false, .bool false, .bool false, .bool false, .bool false, .bool false, .bool false, .bool false, .bool false, .bool false, .bool false, .bool false, .bool false, .bool false, .bool false, .bool false, .bool false, .bool false, .bool false, .bool false, .bool false, .bool false, .bool false, .bool false, .bool false, .bool false, .bool false, .bool false, .bool false, .bool false, .bool false, .bool false, .bool false, .bool false, .bool false, .bool false, .bool false, .bool false, .map none, .slice none 0 0]⟩),
  (86, ⟨256, 2048, true, 2, 3, 256, [], [.int .i64 0, .int .i64 0, .int .i64 0, .int .i64 0, .int .i64 0, .int .i64 0, .int .i64 0, .int .i64 0, .int .i64 0, .int .i64 0, .int .i64 0, .int .i64 0, .int .i64 0, .int .i64 0, .int .i64 0, .int .i64 0, .int .i64 0, .int .i64 0, .int .i64 0, .int .i64 0, .int .i64 0, .int .i64 0, .int .i64 0, .int .i64 0, .int .i64 0, .int .i64 0, .int .i64 0, .int .i64 0, .int .i64 0, .int .i64 0, .int .i64 0, .int .i64 0, .int .i64 0, .int .i64 0, .int .i64 0, .int .i64 0, .int .i64 0, .int .i64 0, .int .i64 0, .int .i64 0, .int .i64 0, .int .i64 0, .int .i64 0, .int .i64 0, .int .i64 0, .int .i64 0, .int .i64 0, .int .i64 0, .int .i64 0, .int .i64 0, .int .i64 0, .int .i64 0, .int .i64 0, .int .i64 0, .int .i64 0, .int .i64 0, .int .i64 0, .int .i64 0, .int .i64 0, .int .i64 0, .int .i64 0, .int .i64 0, .int .i64 0, .int .i64 0, .int .i64 0, .int .i64 0, .int .i64 0, .int .i64 0, .int .i64 0, .int .i64 0, .int .i64 0, .int .i64 0, .int .i64 0, .int .i64 0, .int .i64 0, .int .i64 0, .int .i64 0, .int .i64 0, .int .i64 0, .int .i64 0, .int .i64 0, .int .i64 0, .int .i64 0, .int .i64 0, .int .i64 0, .int .i64 0, .int .i64 0, .int .i64 0, .int .i64 0, .int .i64 0, .int .i64 0, .int .i64 0, .int .i64 0, .int .i64 0, .int .i64 0, .int .i64 0, .int .i64 0, .int .i64 0, .int .i64 0, .int .i64 0, .int .i64 0, .int .i64 0, .int .i64 0, .int .i64 0, .int .i64 0, .int .i64 0, .int .i64 0, .int .i64 0, .int .i64 0, .int .i64 0, .int .i64 0, .int .i64 0, .int .i64 0, .int .i64 0, .int .i64 0, .int .i64 0, .int .i64 0, .int .i64 0, .int .i64 0, .int .i64 0, .int .i64 0, .int .i64 0, .int .i64 0, .int .i64 0, .int .i64 0, .int .i64 0, .int .i64 0, .int .i64 0, .int .i64 0, .int .i64 0, .int .i64 0, .int .i64 0, .int .i64 0, .int .i64 0, .int .i64 0, .int .i64 0, .int .i64 0, .int .i64 0, .int .i64 0, .int .i64 0, .int .i64 0, .int .i64 0, .int .i64 0, .int .i64 0, .int .i64 0, .int .i64 0, .int .i64 0, .int .i64 0, .int .i64 0, .int .i64 0, .int .i64 0, .int .i64 0, .int .i64 0, .int .i64 0, .int .i64 0, .int .i64 0, .int .i64 0, .int .i64 0, .int .i64 0, .int .i64 0, .int .i64 0, .int .i64 0, .int .i64 0, .int .i64 0, .int .i64 0, .int .i64 0, .int .i64 0, .int .i64 0, .int .i64 0, .int .i64 0, .int .i64 0, .int .i64 0, .int .i64 0, .int .i64 0, .int .i64 0, .int .i64 0, .int .i64 0, .int .i64 0, .int .i64 0, .int .i64 0, .int .i64 0, .int .i64 0, .int .i64 0, .int .i64 0, .int .i64 0, .int .i64 0, .int .i64 0, .int .i64 0, .int .i64 0, .int .i64 0, .int .i64 0, .int .i64 0, .int .i64 0, .int .i64 0, .int .i64 0, .int .i64 0, .int .i64 0, .int .i64 0, .int .i64 0, .int .i64 0, .int .i64 0, .int .i64 0, .int .i64 0, .int .i64 0, .int .i64 0, .int .i64 0, .int .i64 0, .int .i64 0, .int .i64 0, .int .i64 0, .int .i64 0, .int .i64 0, .int .i64 0, .int .i64 0, .int .i64 0, .int .i64 0, .int .i64 0, .int .i64 0, .int .i64 0, .int .i64 0, .int .i64 0, .int .i64 0, .int .i64 0, .int .i64 0, .int .i64 0, .int .i64 0, .int .i64 0, .int .i64 0, .int .i64 0, .int .i64 0, .int .i64 0, .int .i64 0, .int .i64 0, .int .i64 0, .int .i64 0, .int .i64 0, .int .i64 0, .int .i64 0, .int .i64 0, .int .i64 0, .int .i64 0, .int .i64 0, .int .i64 0, .int .i64 0, .int .i64 0, .int .i64 0, .int .i64 0, .int .i64 0, .int .i64 0, .int .i64 0, .int .i64 0, .int .i64 0, .int .i64 0, .int .i64 0, .int .i64 0, .int .i64 0]⟩),
  (87, ⟨257, 2056, true, 3, 0, 0, [(0, 256), (256, 1)], [.int .i64 0, .int .i64 0, .int .i64 0, .int .i64 0, .int .i64 0, .int .i64 0, .int .i64 0, .int .i64 0, .int .i64 0, .int .i64 0, .int .i64 0, .int .i64 0, .int .i64 0, .int .i64 0, .int .i64 0, .int .i64 0, .int .i64 0, .int .i64 0, .int .i64 0, .int .i64 0, .int .i64 0, .int .i64 0, .int .i64 0, .int .i64 0, .int .i64 0, .int .i64 0, .int .i64 0, .int .i64 0, .int .i64 0, .int .i64 0, .int .i64 0, .int .i64 0, .int .i64 0, .int .i64 0, .int .i64 0, .int .i64 0, .int .i64 0, .int .i64 0, .int .i64 0, .int .i64 0, .int .i64 0, .int .i64 0, .int .i64 0, .int .i64 0, .int .i64 0, .int .i64 0, .int .i64 0, .int .i64 0, .int .i64 0, .int .i64 0, .int .i64 0, .int .i64 0, .int .i64 0, .int .i64 0, .int .i64 0, .int .i64 0, .int .i64 0, .int .i64 0, .int .i64 0, .int .i64 0, .int .i64 0, .int .i64 0, .int .i64 0, .int .i64 0, .int .i64 0, .int .i64 0, .int .i64 0, .int .i64 0, .int .i64 0, .int .i64 0, .int .i64 0, .int .i64 0, .int .i64 0, .int .i64 0, .int .i64 0, .int .i64 0, .int .i64 0, .int .i64 0, .int .i64 0, .int .i64 0, .int .i64 0, .int .i64 0, .int .i64 0, .int .i64 0, .int .i64 0, .int .i64 0, .int .i64 0, .int .i64 0, .int .i64 0, .int .i64 0, .int .i64 0, .int .i64 0, .int .i64 0, .int .i64 0, .int .i64 0, .int .i64 0, .int .i64 0, .int .i64 0, .int .i64 0, .int .i64 0, .int .i64 0, .int .i64 0, .int .i64 0, .int .i64 0, .int .i64 0, .int .i64 0, .int .i64 0, .int .i64 0, .int .i64 0, .int .i64 0, .int .i64 0, .int .i64 0, .int .i64 0, .int .i64 0, .int .i64 0, .int .i64 0, .int .i64 0, .int .i64 0, .int .i64 0, .int .i64 0, .int .i64 0, .int .i64 0, .int .i64 0, .int .i64 0, .int .i64 0, .int .i64 0, .int .i64 0, .int .i64 0, .int .i64 0, .int .i64 0, .int .i64 0, .int .i64 0, .int .i64 0, .int .i64 0, .int .i64 0, .int .i64 0, .int .i64 0, .int .i64 0, .int .i64 0, .int .i64 0, .int .i64 0, .int .i64 0, .int .i64 0, .int .i64 0, .int .i64 0, .int .i64 0, .int .i64 0, .int .i64 0, .int .i64 0, .int .i64 0, .int .i64 0, .int .i64 0, .int .i64 0, .int .i64 0, .int .i64 0, .int .i64 0, .int .i64 0, .int .i64 0, .int .i64 0, .int .i64 0, .int .i64 0, .int .i64 0, .int .i64 0, .int .i64 0, .int .i64 0, .int .i64 0, .int .i64 0, .int .i64 0, .int .i64 0, .int .i64 0, .int .i64 0, .int .i64 0, .int .i64 0, .int .i64 0, .int .i64 0, .int .i64 0, .int .i64 0, .int .i64 0, .int .i64 0, .int .i64 0, .int .i64 0, .int .i64 0, .int .i64 0, .int .i64 0, .int .i64 0, .int .i64 0, .int .i64 0, .int .i64 0, .int .i64 0, .int .i64 0, .int .i64 0, .int .i64 0, .int .i64 0, .int .i64 0, .int .i64 0, .int .i64 0, .int .i64 0, .int .i64 0, .int .i64 0, .int .i64 0, .int .i64 0, .int .i64 0, .int .i64 0, .int .i64 0, .int .i64 0, .int .i64 0, .int .i64 0, .int .i64 0, .int .i64 0, .int .i64 0, .int .i64 0, .int .i64 0, .int .i64 0, .int .i64 0, .int .i64 0, .int .i64 0, .int .i64 0, .int .i64 0, .int .i64 0, .int .i64 0, .int .i64 0, .int .i64 0, .int .i64 0, .int .i64 0, .int .i64 0, .int .i64 0, .int .i64 0, .int .i64 0, .int .i64 0, .int .i64 0, .int .i64 0, .int .i64 0, .int .i64 0, .int .i64 0, .int .i64 0, .int .i64 0, .int .i64 0, .int .i64 0, .int .i64 0, .int .i64 0, .int .i64 0, .int .i64 0, .int .i64 0, .int .i64 0, .int .i64 0, .int .i64 0, .int .i64 0, .int .i64 0, .int .i64 0, .int .i64 0, .int .i64 0, .int .i64 0, .int .i64 0, .int .i64 0, .int .i64 0, .int .i64 0, .int .i64 0]⟩),
  (88, ⟨257, 2056, true, 3, 0, 0, [(0, 256), (256, 1)], [.int .i64 0, .int .i64 0, .int .i64 0, .int .i64 0, .int .i64 0, .int .i64 0, .int .i64 0, .int .i64 0, .int .i64 0, .int .i64 0, .int .i64 0, .int .i64 0, .int .i64 0, .int .i64 0, .int .i64 0, .int .i64 0, .int .i64 0, .int .i64 0, .int .i64 0, .int .i64 0, .int .i64 0, .int .i64 0, .int .i64 0, .int .i64 0, .int .i64 0, .int .i64 0, .int .i64 0, .int .i64 0, .int .i64 0, .int .i64 0, .int .i64 0, .int .i64 0, .int .i64 0, .int .i64 0, .int .i64 0, .int .i64 0, .int .i64 0, .int .i64 0, .int .i64 0, .int .i64 0, .int .i64 0, .int .i64 0, .int .i64 0, .int .i64 0, .int .i64 0, .int .i64 0, .int .i64 0, .int .i64 0, .int .i64 0, .int .i64 0, .int .i64 0, .int .i64 0, .int .i64 0, .int .i64 0, .int .i64 0, .int .i64 0, .int .i64 0, .int .i64 0, .int .i64 0, .int .i64 0, .int .i64 0, .int .i64 0, .int .i64 0, .int .i64 0, .int .i64 0, .int .i64 0, .int .i64 0, .int .i64 0, .int .i64 0, .int .i64 0, .int .i64 0, .int .i64 0, .int .i64 0, .int .i64 0, .int .i64 0, .int .i64 0, .int .i64 0, .int .i64 0, .int .i64 0, .int .i64 0, .int .i64 0, .int .i64 0, .int .i64 0, .int .i64 0, .int .i64 0, .int .i64 0, .int .i64 0, .int .i64 0, .int .i64 0, .int .i64 0, .int .i64 0, .int .i64 0, .int .i64 0, .int .i64 0, .int .i64 0, .int .i64 0, .int .i64 0, .int .i64 0, .int .i64 0, .int .i64 0, .int .i64 0, .int .i64 0, .int .i64 0, .int .i64 0, .int .i64 0, .int .i64 0, .int .i64 0, .int .i64 0, .int .i64 0, .int .i64 0, .int .i64 0, .int .i64 0, .int .i64 0, .int .i64 0, .int .i64 0, .int .i64 0, .int .i64 0, .int .i64 0, .int .i64 0, .int .i64 0, .int .i64 0, .int .i64 0, .int .i64 0, .int .i64 0, .int .i64 0, .int .i64 0, .int .i64 0, .int .i64 0, .int .i64 0, .int .i64 0, .int .i64 0, .int .i64 0, .int .i64 0, .int .i64 0, .int .i64 0, .int .i64 0, .int .i64 0, .int .i64 0, .int .i64 0, .int .i64 0, .int .i64 0, .int .i64 0, .int .i64 0, .int .i64 0, .int .i64 0, .int .i64 0, .int .i64 0, .int .i64 0, .int .i64 0, .int .i64 0, .int .i64 0, .int .i64 0, .int .i64 0, .int .i64 0, .int .i64 0, .int .i64 0, .int .i64 0, .int .i64 0, .int .i64 0, .int .i64 0, .int .i64 0, .int .i64 0, .int .i64 0, .int .i64 0, .int .i64 0, .int .i64 0, .int .i64 0, .int .i64 0, .int .i64 0, .int .i64 0, .int .i64 0, .int .i64 0, .int .i64 0, .int .i64 0, .int .i64 0, .int .i64 0, .int .i64 0, .int .i64 0, .int .i64 0, .int .i64 0, .int .i64 0, .int .i64 0, .int .i64 0, .int .i64 0, .int .i64 0, .int .i64 0, .int .i64 0, .int .i64 0, .int .i64 0, .int .i64 0, .int .i64 0, .int .i64 0, .int .i64 0, .int .i64 0, .int .i64 0, .int .i64 0, .int .i64 0, .int .i64 0, .int .i64 0, .int .i64 0, .int .i64 0, .int .i64 0, .int .i64 0, .int .i64 0, .int .i64 0, .int .i64 0, .int .i64 0, .int .i64 0, .int .i64 0, .int .i64 0, .int .i64 0, .int .i64 0, .int .i64 0, .int .i64 0, .int .i64 0, .int .i64 0, .int .i64 0, .int .i64 0, .int .i64 0, .int .i64 0, .int .i64 0, .int .i64 0, .int .i64 0, .int .i64 0, .int .i64 0, .int .i64 0, .int .i64 0, .int .i64 0, .int .i64 0, .int .i64 0, .int .i64 0, .int .i64 0, .int .i64 0, .int .i64 0, .int .i64 0, .int .i64 0, .int .i64 0, .int .i64 0, .int .i64 0, .int .i64 0, .int .i64 0, .int .i64 0, .int .i64 0, .int .i64 0, .int .i64 0, .int .i64 0, .int .i64 0, .int .i64 0, .int .i64 0, .int .i64 0, .int .i64 0, .int .i64 0, .int .i64 0, .int .i64 0, .int .i64 0, .int .i64 0, .int .i64 0]⟩),
  (89, ⟨1, 8, false, 8, 0, 0, [], [.nilFunc]⟩),
  (90, ⟨1, 16, true, 3, 0, 0, [(0, 1)], [.string ⟨#[]⟩]⟩),
  (91, ⟨1, 16, true, 3, 0, 0, [(0, 1)], [.string ⟨#[]⟩]⟩),
  (92, ⟨1, 24, true, 3, 0, 0, [(0, 1)], [.slice none 0 0]⟩),
  (93, ⟨1, 24, true, 3, 0, 0, [(0, 1)], [.slice none 0 0]⟩),
  (94, ⟨1, 8, false, 8, 0, 0, [], [.nilFunc]⟩),
  (95, ⟨1, 24, false, 1, 97, 0, [], [.slice none 0 0]⟩),
  (96, ⟨3, 56, true, 3, 0, 0, [(0, 2), (2, 1)], [.int .i64 0, .slice none 0 0, .slice none 0 0]⟩),
  (97, ⟨3, 56, true, 3, 0, 0, [(0, 2), (2, 1)], [.int .i64 0, .slice none 0 0, .slice none 0 0]⟩),
  (99, ⟨1, 8, false, 8, 0, 0, [], [.nilFunc]⟩),
  (100, ⟨1, 8, false, 8, 0, 0, [], [.nilFunc]⟩),
  (101, ⟨5, 48, true, 3, 0, 0, [(0, 1), (1, 1), (2, 1), (3, 1), (4, 1)], [.int .u8 0, .int .u8 0, .int .i64 0, .slice none 0 0, .int .i64 0]⟩),
  (102, ⟨5, 48, true, 3, 0, 0, [(0, 1), (1, 1), (2, 1), (3, 1), (4, 1)], [.int .u8 0, .int .u8 0, .int .i64 0, .slice none 0 0, .int .i64 0]⟩),
  (103, ⟨1, 8, false, 8, 0, 0, [], [.nilFunc]⟩),
  (104, ⟨1, 8, false, 8, 0, 0, [], [.nilFunc]⟩),
  (105, ⟨1, 8, false, 8, 0, 0, [], [.nilFunc]⟩),
  (106, ⟨2, 2, true, 3, 0, 0, [(0, 1), (1, 1)], [.int .u8 0, .int .u8 0]⟩),
  (107, ⟨2, 2, true, 3, 0, 0, [(0, 1), (1, 1)], [.int .u8 0, .int .u8 0]⟩),
  (108, ⟨1, 8, false, 8, 0, 0, [], [.nilFunc]⟩),
  (109, ⟨1, 8, false, 8, 0, 0, [], [.nilFunc]⟩),
  (111, ⟨1, 8, false, 8, 0, 0, [], [.nilFunc]⟩),
  (112, ⟨1, 8, false, 8, 0, 0, [], [.nilFunc]⟩),
  (113, ⟨1, 8, false, 8, 0, 0, [], [.nilFunc]⟩),
  (114, ⟨1, 8, false, 8, 0, 0, [], [.nilFunc]⟩),
  (115, ⟨1, 8, false, 7, 144, 0, [], [.pointer none]⟩),
  (116, ⟨1, 8, false, 8, 0, 0, [], [.nilFunc]⟩),
  (117, ⟨1, 8, false, 5, 0, 0, [], [.int .i64 0]⟩),
  (118, ⟨1, 8, false, 8, 0, 0, [], [.nilFunc]⟩),
  (119, ⟨1, 8, false, 8, 0, 0, [], [.nilFunc]⟩),
  (120, ⟨1, 24, false, 1, 117, 0, [], [.slice none 0 0]⟩),
  (121, ⟨1, 8, false, 8, 0, 0, [], [.nilFunc]⟩),
  (122, ⟨1, 8, false, 8, 0, 0, [], [.nilFunc]⟩),
  (123, ⟨1, 8, false, 8, 0, 0, [], [.nilFunc]⟩),
  (124, ⟨1, 8, false, 7, 93, 0, [], [.pointer none]⟩),
  (125, ⟨1, 8, false, 8, 0, 0, [], [.nilFunc]⟩),
  (127, ⟨1, 8, false, 8, 0, 0, [], [.nilFunc]⟩),
  (128, ⟨1, 8, false, 8, 0, 0, [], [.nilFunc]⟩),
  (129, ⟨1, 8, false, 8, 0, 0, [], [.nilFunc]⟩),
  (130, ⟨1, 24, false, 1, 132, 0, [], [.slice none 0 0]⟩),
  (131, ⟨2, 16, true, 3, 0, 0, [(0, 1), (1, 1)], [.bool false, .int .i64 0]⟩),
  (132, ⟨2, 16, true, 3, 0, 0, [(0, 1), (1, 1)], [.bool false, .int .i64 0]⟩),
  (133, ⟨3, 40, true, 3, 0, 0, [(0, 1), (1, 1), (2, 1)], [.bool false, .slice none 0 0, .int .i64 0]⟩),
  (134, ⟨3, 40, true, 3, 0, 0, [(0, 1), (1, 1), (2, 1)], [.bool false, .slice none 0 0, .int .i64 0]⟩),
  (135, ⟨7, 104, true, 3, 0, 0, [(0, 1), (1, 1), (2, 2), (4, 3)], [.slice none 0 0, .slice none 0 0, .bool false, .int .i64 0, .bool false, .slice none 0 0, .int .i64 0]⟩),
  (136, ⟨7, 104, true, 3, 0, 0, [(0, 1), (1, 1), (2, 2), (4, 3)], [.slice none 0 0, .slice none 0 0, .bool false, .int .i64 0, .bool false, .slice none 0 0, .int .i64 0]⟩),
  (137, ⟨1, 8, false, 8, 0, 0, [], [.nilFunc]⟩),
  (138, ⟨1, 8, false, 8, 0, 0, [], [.nilFunc]⟩),
  (139, ⟨1, 8, false, 8, 0, 0, [], [.nilFunc]⟩),
  (140, ⟨2, 2, true, 3, 0, 0, [(0, 1), (1, 1)], [.int .u8 0, .bool false]⟩),
  (141, ⟨2, 2, true, 3, 0, 0, [(0, 1), (1, 1)], [.int .u8 0, .bool false]⟩),
  (142, ⟨1, 8, false, 8, 0, 0, [], [.nilFunc]⟩),
  (143, ⟨3, 56, true, 3, 0, 0, [(0, 1), (1, 1), (2, 1)], [.int .i64 0, .slice none 0 0, .slice none 0 0]⟩),
  (144, ⟨3, 56, true, 3, 0, 0, [(0, 1), (1, 1), (2, 1)], [.int .i64 0, .slice none 0 0, .slice none 0 0]⟩),
  (145, ⟨1, 8, false, 8, 0, 0, [], [.nilFunc]⟩),
  (146, ⟨1, 8, false, 8, 0, 0, [], [.nilFunc]⟩),
  (147, ⟨1, 8, false, 8, 0, 0, [], [.nilFunc]⟩),
  (148, ⟨1, 8, false, 8, 0, 0, [], [.nilFunc]⟩),
  (149, ⟨1, 8, false, 8, 0, 0, [], [.nilFunc]⟩),
  (150, ⟨1, 8, false, 8, 0, 0, [], [.nilFunc]⟩),
  (151, ⟨1, 8, false, 8, 0, 0, [], [.nilFunc]⟩),
  (152, ⟨1, 8, false, 8, 0, 0, [], [.nilFunc]⟩),
  (153, ⟨1, 8, false, 8, 0, 0, [], [.nilFunc]⟩),
  (154, ⟨1, 8, false, 7, 136, 0, [], [.pointer none]⟩),
  (155, ⟨1, 8, false, 8, 0, 0, [], [.nilFunc]⟩),
  (156, ⟨1, 8, false, 8, 0, 0, [], [.nilFunc]⟩),
  (157, ⟨1, 8, false, 8, 0, 0, [], [.nilFunc]⟩),
  (158, ⟨1, 8, false, 7, 82, 0, [], [.pointer none]⟩),
  (160, ⟨1, 8, false, 8, 0, 0, [], [.nilFunc]⟩),
  (161, ⟨1, 8, false, 8, 0, 0, [], [.nilFunc]⟩),
  (162, ⟨1, 8, false, 8, 0, 0, [], [.nilFunc]⟩),
  (163, ⟨1, 8, false, 8, 0, 0, [], [.nilFunc]⟩),
  (164, ⟨1, 8, false, 8, 0, 0, [], [.nilFunc]⟩),
  (165, ⟨1, 8, false, 8, 0, 0, [], [.nilFunc]⟩),
  (166, ⟨1, 8, false, 8, 0, 0, [], [.nilFunc]⟩),
  (167, ⟨1, 8, false, 8, 0, 0, [], [.nilFunc]⟩),
  (168, ⟨1, 8, false, 8, 0, 0, [], [.nilFunc]⟩),
  (169, ⟨1, 8, false, 7, 134, 0, [], [.pointer none]⟩),
  (170, ⟨4, 40, true, 3, 0, 0, [(0, 1), (1, 1), (2, 1), (3, 1)], [.pointer none, .pointer none, .pointer none, .string ⟨#[]⟩]⟩),
  (171, ⟨4, 40, true, 3, 0, 0, [(0, 1), (1, 1), (2, 1), (3, 1)], [.pointer none, .pointer none, .pointer none, .string ⟨#[]⟩]⟩),
  (172, ⟨0, 0, true, 2, 16, 0, [], []⟩),
  (173, ⟨0, 0, true, 3, 0, 0, [(0, 0)], []⟩),
  (174, ⟨0, 0, true, 3, 0, 0, [(0, 0)], []⟩),
  (175, ⟨1, 8, false, 8, 0, 0, [], [.nilFunc]⟩),
  (176, ⟨1, 4, false, 5, 0, 0, [], [.int .u32 0]⟩),
  (177, ⟨1, 1, false, 6, 0, 0, [], [.int .u8 0]⟩),
  (178, ⟨1, 1, false, 6, 0, 0, [], [.int .u8 0]⟩),
  (179, ⟨1, 8, false, 8, 0, 0, [], [.nilFunc]⟩),
  (180, ⟨1, 8, false, 7, 5, 0, [], [.pointer none]⟩),
  (181, ⟨1, 4, false, 5, 0, 0, [], [.int .i32 0]⟩),
  (182, ⟨1, 4, false, 5, 0, 0, [], [.int .i32 0]⟩),
  (183, ⟨11, 48, true, 3, 0, 0, [(0, 1), (1, 1), (2, 1), (3, 1), (4, 1), (5, 1), (6, 1), (7, 1), (8, 1), (9, 1), (10, 1)], [.int .u64 0, .int .u64 0, .int .u32 0, .int .u8 0, .int .u8 0, .int .u8 0, .int .u8 0, .nilFunc, .pointer none, .int .i32 0, .int .i32 0]⟩),
  (184, ⟨11, 48, true, 3, 0, 0, [(0, 1), (1, 1), (2, 1), (3, 1), (4, 1), (5, 1), (6, 1), (7, 1), (8, 1), (9, 1), (10, 1)], [.int .u64 0, .int .u64 0, .int .u32 0, .int .u8 0, .int .u8 0, .int .u8 0, .int .u8 0, .nilFunc, .pointer none, .int .i32 0, .int .i32 0]⟩),
  (185, ⟨1, 8, false, 0, 0, 0, [], [.pointer none]⟩)]
def fnL : List Nat := [5, 7, 12, 14, 16, 20, 21, 22, 23, 25, 27, 28, 29, 30, 31, 32, 33, 34, 35, 38, 41, 42, 43, 44, 45, 46, 47, 48, 49, 50, 51, 52, 53, 54, 55, 57, 58, 59, 60, 61, 62, 63, 64, 65, 66, 67, 68, 69, 71, 72, 73, 74, 75, 76, 77, 78, 79, 82, 83, 84, 85, 86, 87, 88, 89, 90, 91, 92, 94, 95, 96]
def xtL : List (Nat × Nat) := [(97, 3)]
def plL : List (Nat × List (Nat × List Stage)) := [
  (5, [(18, [⟨[0, 1, 2, 3, 4, 5, 6, 7, 8, 9, 10, 11, 12, 13, 14, 15, 16, 17, 18, 19, 20], [], [], none⟩])]),
  (22, [(11, [⟨[0, 1, 2, 3, 4, 5, 6, 7, 8, 9, 10], [], [], some 11⟩, ⟨[12, 13], [0, 1, 2], [], some 14⟩, ⟨[], [], [], none⟩])]),
  (32, [(1, [⟨[0, 1, 2, 3, 4, 5, 6], [], [], some 7⟩, ⟨[8, 9], [0], [], some 10⟩, ⟨[], [], [], none⟩])]),
  (33, [(3, [⟨[0, 1, 2, 3, 4, 5, 6, 7, 8, 9, 10], [], [], some 11⟩, ⟨[], [0, 1, 2, 3, 4], [], some 12⟩, ⟨[13], [], [], none⟩]), (5, [⟨[0, 1, 2, 3, 4, 5, 6, 8, 9, 10, 11, 12, 13], [], [], some 7⟩, ⟨[], [0, 8, 9, 10, 11, 12, 13], [], some 14⟩, ⟨[15], [0], [], some 16⟩, ⟨[17], [], [], none⟩])]),
  (34, [(2, [⟨[0, 1, 2, 3, 5], [], [5], some 4⟩, ⟨[], [], [], some 6⟩, ⟨[], [], [], none⟩])]),
  (45, [(1, [⟨[0, 1, 2, 3, 4, 5, 6, 7, 8, 9, 10, 11, 12], [], [], some 13⟩, ⟨[], [], [], none⟩])]),
  (46, [(4, [⟨[0, 1, 2, 3], [], [], some 4⟩, ⟨[], [0, 1, 2], [], some 5⟩, ⟨[6], [], [], none⟩])]),
  (50, [(11, [⟨[0, 1, 2, 3, 4, 5, 6], [], [], some 7⟩, ⟨[8], [], [], none⟩])]),
  (52, [(5, [⟨[0, 1, 2, 3, 5, 6, 7, 8], [], [], some 4⟩, ⟨[], [5, 6, 7, 8], [], some 9⟩, ⟨[10, 11], [], [], none⟩]), (7, [⟨[0, 1, 2, 3, 6, 7, 8, 9], [], [], some 4⟩, ⟨[5], [6, 7, 8, 9], [], some 10⟩, ⟨[11, 12], [5], [], none⟩])]),
  (55, [(7, [⟨[0, 1, 2, 3, 4, 5, 6, 7, 8, 9], [], [], none⟩])]),
  (61, [(3, [⟨[0, 1, 2, 3, 4, 5, 6, 7, 8, 9, 10, 11, 12, 13, 14, 15], [], [], none⟩])]),
  (62, [(1, [⟨[0, 1, 2, 3, 4, 5, 6, 7, 8, 9, 10], [], [], none⟩]), (4, [⟨[0, 1, 2, 3, 4, 5], [], [], some 6⟩, ⟨[], [], [], none⟩]), (5, [⟨[0, 1, 2, 3, 4, 5, 6], [], [], some 7⟩, ⟨[8, 9], [0], [], some 10⟩, ⟨[], [], [], none⟩])]),
  (72, [(2, [⟨[0, 1, 2, 3, 4], [], [], some 5⟩, ⟨[6], [], [], none⟩])]),
  (77, [(6, [⟨[0, 1, 2, 3, 4, 5, 6, 7, 8], [], [], none⟩])]),
  (78, [(3, [⟨[0, 1, 4, 5], [], [], some 2⟩, ⟨[3], [4, 5], [], some 6⟩, ⟨[7, 8], [3], [], none⟩])]),
  (87, [(4, [⟨[0, 1, 2, 3, 4, 5, 6, 7, 8, 9], [], [], some 10⟩, ⟨[11, 12], [0], [], some 13⟩, ⟨[], [], [], none⟩])]),
  (88, [(4, [⟨[0, 1, 2, 3, 4, 5, 6, 7, 8, 9, 10, 11, 12, 13, 14, 15, 16], [], [], some 17⟩, ⟨[18, 19], [1, 13, 14], [], some 20⟩, ⟨[], [], [], none⟩])])]

def env (P : Program) : Env := envOf P tyL fnL plL xtL

theorem tys : tysOk Try.prog tyL := by unfold tysOk; kernel_rfl
theorem mixed : Try.prog.follows .mixedOrders = true := by kernel_rfl
theorem fns : (fnsOf Try.prog fnL).all (fnOk (env Try.prog)) = true := by kernel_rfl
theorem own : ownKnob Try.prog.godebug = none := by kernel_rfl

theorem xts : ∀ g, (g, 1) ∈ xtL → ∀ a b w, (callFunc g #[.string a, .string b]).run Try.prog w = .ok (.value (.int .i64 (Extern.BytealgCompare.cmp a b))) w := by
  intro g hg
  simp [xtL] at hg

theorem ext97 : Extern.find Try.f97 = some Extern.BytealgIndexByte.indexByte := by kernel_rfl
theorem ext97' : (Extern.findNext Try.f97).isSome = false := by kernel_rfl
theorem name97 : (Try.f97.name == "runtime.NumGoroutine") = false := by kernel_rfl
theorem body97 : Try.f97.body.isNone = true := by kernel_rfl
theorem xts3 : ∀ g, (g, 3) ∈ xtL → ∀ s c w, (callFunc g #[.string s, .int .u8 c]).run Try.prog w = .ok (.value (.int .i64 (idxB s c))) w := by
  intro g hg s c w
  have e : g = 97 := by simpa [xtL] using hg
  subst e
  have h1 : Extern.findNext Try.f97 = none := by
    cases h : Extern.findNext Try.f97 with
    | none => rfl
    | some x => have := ext97'; rw [h] at this; cases this
  simp only [callFunc, Sem.run_bind, run_program, Result.andThen_ok, Try.func97, name97, body97, Bool.false_eq_true, if_false, if_true, run_mark, h1, ext97]
  have hc : Extern.BytealgIndexByte.indexByte #[.string s, .int .u8 c] = (do
      let b ← Extern.Bytes.bytesOf (.string s)
      let c ← Extern.Bytes.asByte (.int .u8 c)
      match (List.range b.size).find? fun i => b[i]! == c with
      | some i => pure (goInt i)
      | none => pure (goInt (-1))) := rfl
  rw [hc]
  simp only [Extern.Bytes.bytesOf, Extern.Bytes.asByte, pure_bind, idxB]
  cases (List.range s.size).find? fun i => s[i]! == c.toNat.toUInt8 <;> simp [goInt]


theorem ok : EnvOk (env Try.prog) := env_ok tys mixed fns xts xts3 (fun g hg => by simp [xtL] at hg)

theorem here : (tget (env Try.prog).ff 5).isSome = true := by kernel_rfl

set_option maxRecDepth 100000 in
theorem runs : callK (env Try.prog) 1000000 1000 5 [] ⟨.nil, 0⟩ kTrue = True := by kernel_rfl

theorem walk (w : World) : Calls Try.prog 5 #[] w fun e w' => e = .returned (.bool true) ∧ Below w.heap.size w w' := by
  obtain ⟨fn, hfn⟩ := Option.isSome_iff_exists.1 here
  exact law_fast ok hfn (by unfold unkU; omega) runs w

set_option maxRecDepth 100000 in
theorem lifted (os : Os) (started : os.Started) (H : Type) (enc : TypeId × Value → H) :
    ReturnsInHanded {} Try.checked os 5 .any (Rows.lexFormsSpec.pre6 enc Try.prog Try.f5 Rows.lexFormsRow.domain false) (Rows.lexFormsSpec.post enc Try.prog Try.f5 false true false false) := by
  refine returnsInHanded_of_change (C := Try.checked) own started (by kernel_rfl) Try.func5
    (ChangeSpec.witness6 (enc := enc) (C := Try.checked) false ⟨#[], #[], []⟩ 8 (by kernel_rfl) (by kernel_rfl) (by kernel_rfl) (by kernel_rfl)) ?_
  intro W base args ds gs before hval0 hW hcnd _
  have hW' := hW
  obtain ⟨p, q, hA0, hV, rfl, hfz, hnd⟩ := hW
  have hA : DataW.TrodAll enc Try.prog W 0 (fun _ => true) true Try.f5.params.toList args.toList ds p := hA0
  rw [Try.params5] at hA
  obtain ⟨rfl, rfl, rfl⟩ := trodAll_none hA
  obtain ⟨rfl, rfl⟩ := trodVars_none hV
  clear hA0 hval0
  simp only [List.append_nil] at hW'
  refine (walk W).mono fun e W' ⟨he, bel⟩ => ?_
  subst he
  exact ⟨_, rfl, _, _, _, [], [], [], hW', trodAll_mk1 (shut_bool Try.underlying4 _), trodAll_mk0, rfl, bel.frame _, fun h => by cases h⟩

theorem over : Rows.lexFormsRow.holds Try.pinned (OpenSpec.ofChange Rows.lexFormsSpec) :=
  OpenClaim.holds_of_wide 5 Try.f5 rfl rfl rfl rfl rfl rfl rfl ⟨rfl, rfl, rfl, rfl, rfl⟩ rfl rfl rfl rfl rfl (by kernel_rfl) Try.func5 (by kernel_rfl)
    (of_decide_eq_true (by kernel_rfl)) (by unfold Func.isWrapper; first | (rw [if_pos (by decide +kernel)]; kernel_rfl) | (rw [if_neg (by decide +kernel)]; exact ⟨rfl, rfl⟩))
    (fun os started H enc _ => lifted os started H enc)
end Forms

theorem LexForms_holds : Rows.LexFormsSaid := Forms.over
#print axioms LexForms_holds
end Go.Proofs.Ytidodhhhbcemjaa
