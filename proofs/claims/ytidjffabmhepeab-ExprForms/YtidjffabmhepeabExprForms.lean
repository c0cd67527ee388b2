/-
  The law ExprForms returns true, in whatever world it is called; nothing that was there is changed. No conditions.
  How: the call is reckoned by an evaluator over named memory (the texts Ev..), which is proved right for every world, every order that is left open and every capacity; the kernel runs it.
-/
import Derived.Test.YtidjffabmhepeabRows
import Derived.Test.YtidjffabmhepeabEvTab
import Derived.Test.YtidjffabmhepeabEvFast4
import Derived.WalkKit
import Derived.ProofKit
import Derived.OpenShut
import Derived.Below
namespace Go.Proofs.Ytidjffabmhepeab
open Go.ChangeShapes Go.WideShapes Go.ChangeAt Go.RowKit Go.Ev
namespace Forms
def tyL : List (Nat × TI) := [
  (1, ⟨1, 8, false, 8, 0, 0, [], [.nilFunc]⟩),
  (2, ⟨1, 8, false, 5, 0, 0, [], [.int .i64 0]⟩),
  (3, ⟨1, 8, false, 5, 0, 0, [], [.int .i64 0]⟩),
  (4, ⟨1, 1, false, 9, 0, 0, [], [.bool false]⟩),
  (5, ⟨1, 1, false, 6, 0, 0, [], [.int .u8 0]⟩),
  (6, ⟨1, 1, false, 6, 0, 0, [], [.int .u8 0]⟩),
  (7, ⟨4, 24, true, 3, 0, 0, [(0, 1), (1, 1), (2, 1), (3, 1)], [.int .i64 0, .int .i64 0, .bool false, .int .u8 0]⟩),
  (8, ⟨4, 24, true, 3, 0, 0, [(0, 1), (1, 1), (2, 1), (3, 1)], [.int .i64 0, .int .i64 0, .bool false, .int .u8 0]⟩),
  (9, ⟨1, 16, false, 4, 0, 0, [], [.string ⟨#[]⟩]⟩),
  (10, ⟨1, 16, false, 4, 0, 0, [], [.string ⟨#[]⟩]⟩),
  (11, ⟨1, 16, false, 4, 0, 0, [], [.string ⟨#[]⟩]⟩),
  (12, ⟨1, 8, false, 5, 0, 0, [], [.int .u64 0]⟩),
  (13, ⟨2, 24, true, 3, 0, 0, [(0, 1), (1, 1)], [.string ⟨#[]⟩, .int .u64 0]⟩),
  (14, ⟨2, 24, true, 3, 0, 0, [(0, 1), (1, 1)], [.string ⟨#[]⟩, .int .u64 0]⟩),
  (15, ⟨1, 8, false, 7, 130, 0, [], [.pointer none]⟩),
  (16, ⟨1, 8, false, 7, 133, 0, [], [.pointer none]⟩),
  (17, ⟨1, 8, false, 7, 143, 0, [], [.pointer none]⟩),
  (18, ⟨1, 8, true, 3, 0, 0, [(0, 1)], [.pointer none]⟩),
  (19, ⟨1, 8, true, 3, 0, 0, [(0, 1)], [.pointer none]⟩),
  (20, ⟨1, 16, false, 0, 0, 0, [], [.nilIface]⟩),
  (21, ⟨1, 4, false, 5, 0, 0, [], [.int .i32 0]⟩),
  (22, ⟨1, 8, false, 8, 0, 0, [], [.nilFunc]⟩),
  (23, ⟨1, 24, false, 1, 25, 0, [], [.slice none 0 0]⟩),
  (24, ⟨4, 56, true, 3, 0, 0, [(0, 1), (1, 1), (2, 1), (3, 1)], [.int .i64 0, .int .i64 0, .string ⟨#[]⟩, .slice none 0 0]⟩),
  (25, ⟨4, 56, true, 3, 0, 0, [(0, 1), (1, 1), (2, 1), (3, 1)], [.int .i64 0, .int .i64 0, .string ⟨#[]⟩, .slice none 0 0]⟩),
  (26, ⟨1, 24, false, 1, 28, 0, [], [.slice none 0 0]⟩),
  (27, ⟨8, 104, true, 3, 0, 0, [(0, 1), (1, 4), (5, 1), (6, 1), (7, 1)], [.int .i64 0, .int .i64 0, .int .i64 0, .string ⟨#[]⟩, .slice none 0 0, .int .i64 0, .int .i64 0, .slice none 0 0]⟩),
  (28, ⟨8, 104, true, 3, 0, 0, [(0, 1), (1, 4), (5, 1), (6, 1), (7, 1)], [.int .i64 0, .int .i64 0, .int .i64 0, .string ⟨#[]⟩, .slice none 0 0, .int .i64 0, .int .i64 0, .slice none 0 0]⟩),
  (29, ⟨1, 8, false, 8, 0, 0, [], [.nilFunc]⟩),
  (30, ⟨1, 8, false, 8, 0, 0, [], [.nilFunc]⟩),
  (31, ⟨1, 8, false, 8, 0, 0, [], [.nilFunc]⟩),
  (32, ⟨1, 24, false, 1, 9, 0, [], [.slice none 0 0]⟩),
  (33, ⟨1, 8, false, 8, 0, 0, [], [.nilFunc]⟩),
  (34, ⟨1, 8, false, 8, 0, 0, [], [.nilFunc]⟩),
  (35, ⟨1, 8, false, 8, 0, 0, [], [.nilFunc]⟩),
  (36, ⟨1, 24, false, 1, 23, 0, [], [.slice none 0 0]⟩),
  (37, ⟨1, 24, false, 1, 39, 0, [], [.slice none 0 0]⟩),
  (38, ⟨1, 8, false, 8, 0, 0, [], [.nilFunc]⟩),
  (39, ⟨2, 16, true, 2, 3, 2, [], [.int .i64 0, .int .i64 0]⟩),
  (40, ⟨2, 48, true, 3, 0, 0, [(0, 1), (1, 1)], [.slice none 0 0, .slice none 0 0]⟩),
  (41, ⟨2, 48, true, 3, 0, 0, [(0, 1), (1, 1)], [.slice none 0 0, .slice none 0 0]⟩),
  (42, ⟨1, 8, false, 8, 0, 0, [], [.nilFunc]⟩),
  (43, ⟨1, 8, false, 8, 0, 0, [], [.nilFunc]⟩),
  (44, ⟨1, 8, false, 8, 0, 0, [], [.nilFunc]⟩),
  (45, ⟨1, 8, false, 8, 0, 0, [], [.nilFunc]⟩),
  (46, ⟨1, 8, false, 8, 0, 0, [], [.nilFunc]⟩),
  (47, ⟨1, 8, false, 8, 0, 0, [], [.nilFunc]⟩),
  (48, ⟨1, 8, false, 8, 0, 0, [], [.nilFunc]⟩),
  (49, ⟨1, 8, false, 5, 0, 0, [], [.int .i64 0]⟩),
  (50, ⟨1, 8, false, 8, 0, 0, [], [.nilFunc]⟩),
  (51, ⟨1, 8, false, 8, 0, 0, [], [.nilFunc]⟩),
  (52, ⟨1, 8, false, 8, 0, 0, [], [.nilFunc]⟩),
  (53, ⟨1, 8, false, 8, 0, 0, [], [.nilFunc]⟩),
  (54, ⟨1, 8, false, 8, 0, 0, [], [.nilFunc]⟩),
  (55, ⟨1, 8, false, 8, 0, 0, [], [.nilFunc]⟩),
  (56, ⟨1, 8, false, 8, 0, 0, [], [.nilFunc]⟩),
  (57, ⟨1, 8, false, 8, 0, 0, [], [.nilFunc]⟩),
  (59, ⟨1, 24, false, 1, 23, 0, [], [.slice none 0 0]⟩),
  (60, ⟨1, 8, false, 8, 0, 0, [], [.nilFunc]⟩),
  (62, ⟨1, 24, false, 1, 25, 0, [], [.slice none 0 0]⟩),
  (63, ⟨1, 8, false, 8, 0, 0, [], [.nilFunc]⟩),
  (65, ⟨1, 24, false, 1, 9, 0, [], [.slice none 0 0]⟩),
  (66, ⟨1, 8, false, 8, 0, 0, [], [.nilFunc]⟩),
  (67, ⟨1, 8, false, 8, 0, 0, [], [.nilFunc]⟩),
  (68, ⟨1, 24, false, 1, 5, 0, [], [.slice none 0 0]⟩),
  (69, ⟨1, 8, false, 8, 0, 0, [], [.nilFunc]⟩),
  (71, ⟨1, 8, false, 8, 0, 0, [], [.nilFunc]⟩),
  (72, ⟨1, 8, false, 8, 0, 0, [], [.nilFunc]⟩),
  (73, ⟨1, 8, false, 8, 0, 0, [], [.nilFunc]⟩),
  (74, ⟨1, 8, false, 8, 0, 0, [], [.nilFunc]⟩),
  (75, ⟨1, 8, false, 8, 0, 0, [], [.nilFunc]⟩),
  (76, ⟨1, 8, false, 8, 0, 0, [], [.nilFunc]⟩),
  (77, ⟨1, 8, false, 8, 0, 0, [], [.nilFunc]⟩),
  (78, ⟨1, 8, false, 8, 0, 0, [], [.nilFunc]⟩),
  (79, ⟨3, 24, true, 3, 0, 0, [(0, 1), (1, 1), (2, 1)], [.nilFunc, .nilFunc, .nilFunc]⟩),
  (80, ⟨3, 24, true, 3, 0, 0, [(0, 1), (1, 1), (2, 1)], [.nilFunc, .nilFunc, .nilFunc]⟩),
  (81, ⟨1, 8, false, 8, 0, 0, [], [.nilFunc]⟩),
  (82, ⟨1, 8, false, 8, 0, 0, [], [.nilFunc]⟩),
  (83, ⟨1, 8, false, 8, 0, 0, [], [.nilFunc]⟩),
  (84, ⟨1, 8, false, 8, 0, 0, [], [.nilFunc]⟩),
  (85, ⟨2, 32, true, 3, 0, 0, [(0, 1), (1, 1)], [.slice none 0 0, .nilFunc]⟩),
  (86, ⟨2, 32, true, 3, 0, 0, [(0, 1), (1, 1)], [.slice none 0 0, .nilFunc]⟩),
  (87, ⟨1, 8, false, 8, 0, 0, [], [.nilFunc]⟩),
  (88, ⟨1, 8, false, 8, 0, 0, [], [.nilFunc]⟩),
  (90, ⟨1, 8, false, 8, 0, 0, [], [.nilFunc]⟩),
  (91, ⟨1, 8, false, 8, 0, 0, [], [.nilFunc]⟩),
  (92, ⟨1, 8, false, 8, 0, 0, [], [.nilFunc]⟩),
  (93, ⟨1, 8, false, 8, 0, 0, [], [.nilFunc]⟩),
  (94, ⟨1, 8, false, 8, 0, 0, [], [.nilFunc]⟩),
  (95, ⟨3, 24, true, 3, 0, 0, [(0, 1), (1, 1), (2, 1)], [.nilFunc, .nilFunc, .nilFunc]⟩),
  (96, ⟨3, 24, true, 3, 0, 0, [(0, 1), (1, 1), (2, 1)], [.nilFunc, .nilFunc, .nilFunc]⟩),
  (97, ⟨1, 8, false, 8, 0, 0, [], [.nilFunc]⟩),
  (98, ⟨1, 8, false, 8, 0, 0, [], [.nilFunc]⟩),
  (99, ⟨3, 24, true, 3, 0, 0, [(0, 1), (1, 1), (2, 1)], [.nilFunc, .nilFunc, .nilFunc]⟩),
  (100, ⟨3, 24, true, 3, 0, 0, [(0, 1), (1, 1), (2, 1)], [.nilFunc, .nilFunc, .nilFunc]⟩),
  (101, ⟨1, 8, false, 8, 0, 0, [], [.nilFunc]⟩),
  (102, ⟨1, 8, false, 8, 0, 0, [], [.nilFunc]⟩),
  (103, ⟨3, 24, true, 3, 0, 0, [(0, 1), (1, 1), (2, 1)], [.nilFunc, .nilFunc, .nilFunc]⟩),
  (104, ⟨3, 24, true, 3, 0, 0, [(0, 1), (1, 1), (2, 1)], [.nilFunc, .nilFunc, .nilFunc]⟩),
  (105, ⟨1, 8, false, 8, 0, 0, [], [.nilFunc]⟩),
  (106, ⟨3, 24, true, 3, 0, 0, [(0, 1), (1, 1), (2, 1)], [.nilFunc, .nilFunc, .nilFunc]⟩),
  (107, ⟨3, 24, true, 3, 0, 0, [(0, 1), (1, 1), (2, 1)], [.nilFunc, .nilFunc, .nilFunc]⟩),
  (108, ⟨1, 8, false, 8, 0, 0, [], [.nilFunc]⟩),
  (109, ⟨3, 24, true, 3, 0, 0, [(0, 1), (1, 1), (2, 1)], [.nilFunc, .nilFunc, .nilFunc]⟩),
  (110, ⟨3, 24, true, 3, 0, 0, [(0, 1), (1, 1), (2, 1)], [.nilFunc, .nilFunc, .nilFunc]⟩),
  (111, ⟨1, 8, false, 8, 0, 0, [], [.nilFunc]⟩),
  (112, ⟨3, 24, true, 3, 0, 0, [(0, 1), (1, 1), (2, 1)], [.nilFunc, .nilFunc, .nilFunc]⟩),
  (113, ⟨3, 24, true, 3, 0, 0, [(0, 1), (1, 1), (2, 1)], [.nilFunc, .nilFunc, .nilFunc]⟩),
  (114, ⟨1, 8, false, 8, 0, 0, [], [.nilFunc]⟩),
  (115, ⟨1, 8, false, 8, 0, 0, [], [.nilFunc]⟩),
  (116, ⟨1, 8, false, 8, 0, 0, [], [.nilFunc]⟩),
  (117, ⟨1, 8, false, 8, 0, 0, [], [.nilFunc]⟩),
  (118, ⟨1, 8, false, 8, 0, 0, [], [.nilFunc]⟩),
  (119, ⟨1, 8, false, 8, 0, 0, [], [.nilFunc]⟩),
  (120, ⟨1, 8, false, 8, 0, 0, [], [.nilFunc]⟩),
  (121, ⟨1, 8, false, 8, 0, 0, [], [.nilFunc]⟩),
  (122, ⟨1, 8, false, 8, 0, 0, [], [.nilFunc]⟩),
  (124, ⟨1, 8, false, 8, 0, 0, [], [.nilFunc]⟩),
  (125, ⟨1, 8, false, 8, 0, 0, [], [.nilFunc]⟩),
  (126, ⟨1, 8, false, 8, 0, 0, [], [.nilFunc]⟩),
  (127, ⟨1, 8, false, 5, 0, 0, [], [.int .u64 0]⟩),
  (128, ⟨1, 8, false, 8, 0, 0, [], [.nilFunc]⟩),
  (129, ⟨4, 40, true, 3, 0, 0, [(0, 1), (1, 1), (2, 1), (3, 1)], [.pointer none, .pointer none, .pointer none, .string ⟨#[]⟩]⟩),
  (130, ⟨4, 40, true, 3, 0, 0, [(0, 1), (1, 1), (2, 1), (3, 1)], [.pointer none, .pointer none, .pointer none, .string ⟨#[]⟩]⟩),
  (131, ⟨0, 0, true, 2, 16, 0, [], []⟩),
  (132, ⟨0, 0, true, 3, 0, 0, [(0, 0)], []⟩),
  (133, ⟨0, 0, true, 3, 0, 0, [(0, 0)], []⟩),
  (134, ⟨1, 8, false, 8, 0, 0, [], [.nilFunc]⟩),
  (135, ⟨1, 4, false, 5, 0, 0, [], [.int .u32 0]⟩),
  (136, ⟨1, 1, false, 6, 0, 0, [], [.int .u8 0]⟩),
  (137, ⟨1, 1, false, 6, 0, 0, [], [.int .u8 0]⟩),
  (138, ⟨1, 8, false, 8, 0, 0, [], [.nilFunc]⟩),
  (139, ⟨1, 8, false, 7, 5, 0, [], [.pointer none]⟩),
  (140, ⟨1, 4, false, 5, 0, 0, [], [.int .i32 0]⟩),
  (141, ⟨1, 4, false, 5, 0, 0, [], [.int .i32 0]⟩),
  (142, ⟨11, 48, true, 3, 0, 0, [(0, 1), (1, 1), (2, 1), (3, 1), (4, 1), (5, 1), (6, 1), (7, 1), (8, 1), (9, 1), (10, 1)], [.int .u64 0, .int .u64 0, .int .u32 0, .int .u8 0, .int .u8 0, .int .u8 0, .int .u8 0, .nilFunc, .pointer none, .int .i32 0, .int .i32 0]⟩),
  (143, ⟨11, 48, true, 3, 0, 0, [(0, 1), (1, 1), (2, 1), (3, 1), (4, 1), (5, 1), (6, 1), (7, 1), (8, 1), (9, 1), (10, 1)], [.int .u64 0, .int .u64 0, .int .u32 0, .int .u8 0, .int .u8 0, .int .u8 0, .int .u8 0, .nilFunc, .pointer none, .int .i32 0, .int .i32 0]⟩),
  (144, ⟨1, 8, false, 0, 0, 0, [], [.pointer none]⟩)]
def fnL : List Nat := [3, 6, 7, 8, 9, 10, 11, 12, 13, 14, 15, 16, 17, 18, 19, 20, 21, 22, 23, 24, 25, 26, 27, 28, 29, 30, 31, 32, 33, 34, 35, 36, 37, 38, 39, 40, 41, 42, 43, 44, 45, 46, 47, 48, 49, 50, 51, 52, 53, 54, 55, 56, 57, 58, 59, 60, 61, 62, 63, 64, 65, 66, 67, 68, 69, 70, 71, 72, 73, 74, 75, 76, 77, 78, 79, 80, 81, 82, 83, 84, 85, 86, 87, 88, 89, 90, 91, 92, 93, 94, 95, 96, 97, 98]
def xtL : List (Nat × Nat) := [(99, 1)]
def plL : List (Nat × List (Nat × List Stage)) := [
  (3, [(8, [⟨[0, 1, 2, 4, 5, 6, 8, 9, 10, 12, 13, 14, 16, 17, 18, 20, 21, 22, 24, 25, 26, 28, 29, 31, 32, 33, 34, 36, 37, 38, 39, 41, 42, 43, 44, 46, 47, 48, 50, 54, 55, 56, 60, 61, 63, 64, 65, 66, 68, 71, 72, 73, 75, 76, 77, 78, 80, 83, 84, 85, 87, 90, 91, 92, 94, 95, 96, 98, 99, 100, 101, 102, 106, 107, 108, 109, 111, 112, 113, 114], [], [6, 10, 14, 18, 22, 26, 29, 34, 39, 44, 48, 56, 61, 66, 73, 78, 85, 92, 96, 102, 109], some 3⟩, ⟨[], [4, 5, 8, 9, 12, 13, 16, 17, 20, 21, 24, 25, 28, 31, 32, 33, 36, 37, 38, 41, 42, 43, 46, 47, 50, 54, 55, 60, 63, 64, 65, 68, 71, 72, 75, 76, 77, 80, 83, 84, 87, 90, 91, 94, 95, 98, 99, 100, 101, 106, 107, 108, 111, 112, 113, 114], [10, 14, 18, 22, 26, 29, 34, 39, 44, 48, 56, 61, 66, 73, 78, 85, 92, 96, 102, 109], some 7⟩, ⟨[], [8, 9, 12, 13, 16, 17, 20, 21, 24, 25, 28, 31, 32, 33, 36, 37, 38, 41, 42, 43, 46, 47, 50, 54, 55, 60, 63, 64, 65, 68, 71, 72, 75, 76, 77, 80, 83, 84, 87, 90, 91, 94, 95, 98, 99, 100, 101, 106, 107, 108, 111, 112, 113, 114], [14, 18, 22, 26, 29, 34, 39, 44, 48, 56, 61, 66, 73, 78, 85, 92, 96, 102, 109], some 11⟩, ⟨[], [12, 13, 16, 17, 20, 21, 24, 25, 28, 31, 32, 33, 36, 37, 38, 41, 42, 43, 46, 47, 50, 54, 55, 60, 63, 64, 65, 68, 71, 72, 75, 76, 77, 80, 83, 84, 87, 90, 91, 94, 95, 98, 99, 100, 101, 106, 107, 108, 111, 112, 113, 114], [18, 22, 26, 29, 34, 39, 44, 48, 56, 61, 66, 73, 78, 85, 92, 96, 102, 109], some 15⟩, ⟨[], [16, 17, 20, 21, 24, 25, 28, 31, 32, 33, 36, 37, 38, 41, 42, 43, 46, 47, 50, 54, 55, 60, 63, 64, 65, 68, 71, 72, 75, 76, 77, 80, 83, 84, 87, 90, 91, 94, 95, 98, 99, 100, 101, 106, 107, 108, 111, 112, 113, 114], [22, 26, 29, 34, 39, 44, 48, 56, 61, 66, 73, 78, 85, 92, 96, 102, 109], some 19⟩, ⟨[], [20, 21, 24, 25, 28, 31, 32, 33, 36, 37, 38, 41, 42, 43, 46, 47, 50, 54, 55, 60, 63, 64, 65, 68, 71, 72, 75, 76, 77, 80, 83, 84, 87, 90, 91, 94, 95, 98, 99, 100, 101, 106, 107, 108, 111, 112, 113, 114], [26, 29, 34, 39, 44, 48, 56, 61, 66, 73, 78, 85, 92, 96, 102, 109], some 23⟩, ⟨[], [24, 25, 28, 31, 32, 33, 36, 37, 38, 41, 42, 43, 46, 47, 50, 54, 55, 60, 63, 64, 65, 68, 71, 72, 75, 76, 77, 80, 83, 84, 87, 90, 91, 94, 95, 98, 99, 100, 101, 106, 107, 108, 111, 112, 113, 114], [29, 34, 39, 44, 48, 56, 61, 66, 73, 78, 85, 92, 96, 102, 109], some 27⟩, ⟨[], [28, 31, 32, 33, 36, 37, 38, 41, 42, 43, 46, 47, 50, 54, 55, 60, 63, 64, 65, 68, 71, 72, 75, 76, 77, 80, 83, 84, 87, 90, 91, 94, 95, 98, 99, 100, 101, 106, 107, 108, 111, 112, 113, 114], [34, 39, 44, 48, 56, 61, 66, 73, 78, 85, 92, 96, 102, 109], some 30⟩, ⟨[], [31, 32, 33, 36, 37, 38, 41, 42, 43, 46, 47, 50, 54, 55, 60, 63, 64, 65, 68, 71, 72, 75, 76, 77, 80, 83, 84, 87, 90, 91, 94, 95, 98, 99, 100, 101, 106, 107, 108, 111, 112, 113, 114], [39, 44, 48, 56, 61, 66, 73, 78, 85, 92, 96, 102, 109], some 35⟩, ⟨[], [36, 37, 38, 41, 42, 43, 46, 47, 50, 54, 55, 60, 63, 64, 65, 68, 71, 72, 75, 76, 77, 80, 83, 84, 87, 90, 91, 94, 95, 98, 99, 100, 101, 106, 107, 108, 111, 112, 113, 114], [44, 48, 56, 61, 66, 73, 78, 85, 92, 96, 102, 109], some 40⟩, ⟨[], [41, 42, 43, 46, 47, 50, 54, 55, 60, 63, 64, 65, 68, 71, 72, 75, 76, 77, 80, 83, 84, 87, 90, 91, 94, 95, 98, 99, 100, 101, 106, 107, 108, 111, 112, 113, 114], [48, 56, 61, 66, 73, 78, 85, 92, 96, 102, 109], some 45⟩, ⟨[], [46, 47, 50, 54, 55, 60, 63, 64, 65, 68, 71, 72, 75, 76, 77, 80, 83, 84, 87, 90, 91, 94, 95, 98, 99, 100, 101, 106, 107, 108, 111, 112, 113, 114], [56, 61, 66, 73, 78, 85, 92, 96, 102, 109], some 49⟩, ⟨[], [50, 54, 55, 60, 63, 64, 65, 68, 71, 72, 75, 76, 77, 80, 83, 84, 87, 90, 91, 94, 95, 98, 99, 100, 101, 106, 107, 108, 111, 112, 113, 114], [56, 61, 66, 73, 78, 85, 92, 96, 102, 109], some 51⟩, ⟨[52], [50, 54, 55, 60, 63, 64, 65, 68, 71, 72, 75, 76, 77, 80, 83, 84, 87, 90, 91, 94, 95, 98, 99, 100, 101, 106, 107, 108, 111, 112, 113, 114], [56, 61, 66, 73, 78, 85, 92, 96, 102, 109], some 53⟩, ⟨[], [54, 55, 60, 63, 64, 65, 68, 71, 72, 75, 76, 77, 80, 83, 84, 87, 90, 91, 94, 95, 98, 99, 100, 101, 106, 107, 108, 111, 112, 113, 114], [61, 66, 73, 78, 85, 92, 96, 102, 109], some 57⟩, ⟨[58], [60, 63, 64, 65, 68, 71, 72, 75, 76, 77, 80, 83, 84, 87, 90, 91, 94, 95, 98, 99, 100, 101, 106, 107, 108, 111, 112, 113, 114], [61, 66, 73, 78, 85, 92, 96, 102, 109], some 59⟩, ⟨[], [60, 63, 64, 65, 68, 71, 72, 75, 76, 77, 80, 83, 84, 87, 90, 91, 94, 95, 98, 99, 100, 101, 106, 107, 108, 111, 112, 113, 114], [66, 73, 78, 85, 92, 96, 102, 109], some 62⟩, ⟨[], [63, 64, 65, 68, 71, 72, 75, 76, 77, 80, 83, 84, 87, 90, 91, 94, 95, 98, 99, 100, 101, 106, 107, 108, 111, 112, 113, 114], [73, 78, 85, 92, 96, 102, 109], some 67⟩, ⟨[69], [68, 71, 72, 75, 76, 77, 80, 83, 84, 87, 90, 91, 94, 95, 98, 99, 100, 101, 106, 107, 108, 111, 112, 113, 114], [73, 78, 85, 92, 96, 102, 109], some 70⟩, ⟨[], [71, 72, 75, 76, 77, 80, 83, 84, 87, 90, 91, 94, 95, 98, 99, 100, 101, 106, 107, 108, 111, 112, 113, 114], [78, 85, 92, 96, 102, 109], some 74⟩, ⟨[], [75, 76, 77, 80, 83, 84, 87, 90, 91, 94, 95, 98, 99, 100, 101, 106, 107, 108, 111, 112, 113, 114], [85, 92, 96, 102, 109], some 79⟩, ⟨[81], [80, 83, 84, 87, 90, 91, 94, 95, 98, 99, 100, 101, 106, 107, 108, 111, 112, 113, 114], [85, 92, 96, 102, 109], some 82⟩, ⟨[], [83, 84, 87, 90, 91, 94, 95, 98, 99, 100, 101, 106, 107, 108, 111, 112, 113, 114], [92, 96, 102, 109], some 86⟩, ⟨[88], [87, 90, 91, 94, 95, 98, 99, 100, 101, 106, 107, 108, 111, 112, 113, 114], [92, 96, 102, 109], some 89⟩, ⟨[], [90, 91, 94, 95, 98, 99, 100, 101, 106, 107, 108, 111, 112, 113, 114], [96, 102, 109], some 93⟩, ⟨[], [94, 95, 98, 99, 100, 101, 106, 107, 108, 111, 112, 113, 114], [102, 109], some 97⟩, ⟨[], [98, 99, 100, 101, 106, 107, 108, 111, 112, 113, 114], [109], some 103⟩, ⟨[104], [98, 99, 106, 107, 108, 111, 112, 113, 114], [109], some 105⟩, ⟨[], [106, 107, 108, 111, 112, 113, 114], [], some 110⟩, ⟨[115, 116], [111, 112, 113, 114], [], none⟩]), (14, [⟨[0, 1, 2, 3, 4, 5, 6, 7, 8, 9], [], [], some 10⟩, ⟨[11, 12], [], [], none⟩])]),
  (14, [(10, [⟨[0, 1, 2, 3, 4, 5, 6, 7, 8, 9], [], [], some 10⟩, ⟨[11], [], [], none⟩])]),
  (24, [(1, [⟨[0, 1, 2, 3, 4, 6], [], [6], some 5⟩, ⟨[], [], [], some 7⟩, ⟨[], [], [], none⟩]), (8, [⟨[0, 1, 2, 3, 4], [], [], some 5⟩, ⟨[], [], [], some 6⟩, ⟨[], [], [], none⟩]), (9, [⟨[0, 1, 2, 3, 4], [], [], some 5⟩, ⟨[], [], [], some 6⟩, ⟨[], [], [], none⟩])]),
  (26, [(14, [⟨[0, 1, 2, 3, 4, 5, 6, 7], [], [], some 8⟩, ⟨[], [], [], some 9⟩, ⟨[], [], [], none⟩]), (15, [⟨[0, 1, 2, 3, 4, 5, 6], [], [], some 7⟩, ⟨[], [], [], some 8⟩, ⟨[], [], [], none⟩])]),
  (36, [(1, [⟨[0, 1, 2, 3, 4, 5, 6, 7], [], [], none⟩])]),
  (41, [(1, [⟨[0, 2, 5], [], [5], some 1⟩, ⟨[3, 4], [2], [], some 6⟩, ⟨[], [], [], none⟩]), (6, [⟨[0, 1, 2, 3, 4, 5, 6, 7, 8], [], [], some 9⟩, ⟨[10], [], [], some 11⟩, ⟨[], [], [], none⟩])]),
  (42, [(1, [⟨[0, 1, 2, 3, 4, 5, 6], [], [], none⟩])]),
  (43, [(1, [⟨[0, 1, 2, 3, 4, 5, 6], [], [], none⟩])]),
  (53, [(4, [⟨[0, 1, 2, 3, 4, 5, 6, 7, 8, 9, 10], [], [], some 11⟩, ⟨[12], [], [], none⟩])]),
  (57, [(1, [⟨[0, 1, 2, 3, 4, 5, 6], [], [], none⟩])]),
  (71, [(1, [⟨[0, 1, 2, 3, 4, 5, 6], [], [], none⟩])]),
  (76, [(1, [⟨[0, 1, 2, 3, 4, 5, 6], [], [], none⟩])]),
  (81, [(4, [⟨[0, 1, 2, 3, 4, 5, 6, 7, 8, 9, 10, 11, 12], [], [], some 13⟩, ⟨[14], [], [], none⟩])]),
  (83, [(1, [⟨[0, 2], [], [], some 1⟩, ⟨[], [2], [], some 3⟩, ⟨[], [], [], some 4⟩, ⟨[5], [], [], none⟩])]),
  (89, [(1, [⟨[0, 1, 2, 3, 4], [], [], none⟩]), (4, [⟨[0, 1, 2, 3, 4, 5, 6, 7], [], [], some 8⟩, ⟨[9], [], [], none⟩]), (7, [⟨[0, 1, 2, 3, 4, 5, 6, 7, 8, 9, 10, 11, 12, 13, 14], [], [], some 15⟩, ⟨[16, 17, 18, 19], [0], [], none⟩])]),
  (94, [(5, [⟨[0, 1, 2, 3, 4, 5], [], [], some 6⟩, ⟨[7], [], [], none⟩]), (8, [⟨[0, 1, 2, 3, 4, 5, 6, 7, 8, 9, 10], [], [], some 11⟩, ⟨[12, 13, 14, 15], [0], [], none⟩])])]

def env (P : Program) : Env := envOf P tyL fnL plL xtL

theorem tys : tysOk Try.prog tyL := by unfold tysOk; kernel_rfl
theorem mixed : Try.prog.follows .mixedOrders = true := by kernel_rfl
theorem fns : (fnsOf Try.prog fnL).all (fnOk (env Try.prog)) = true := by kernel_rfl
theorem own : ownKnob Try.prog.godebug = none := by kernel_rfl

theorem ext99 : Extern.find Try.f99 = some Extern.BytealgCompare.compare := by kernel_rfl
theorem ext99' : (Extern.findNext Try.f99).isSome = false := by kernel_rfl
theorem name99 : (Try.f99.name == "runtime.NumGoroutine") = false := by kernel_rfl
theorem body99 : Try.f99.body.isNone = true := by kernel_rfl

theorem xts : ∀ g, (g, 1) ∈ xtL → ∀ a b w, (callFunc g #[.string a, .string b]).run Try.prog w = .ok (.value (.int .i64 (Extern.BytealgCompare.cmp a b))) w := by
  intro g hg a b w
  have e : g = 99 := by simpa [xtL] using hg
  subst e
  have h1 : Extern.findNext Try.f99 = none := by
    cases h : Extern.findNext Try.f99 with
    | none => rfl
    | some x => have := ext99'; rw [h] at this; cases this
  simp only [callFunc, Sem.run_bind, run_program, Result.andThen_ok, Try.func99, name99, body99, Bool.false_eq_true, if_false, if_true, run_mark, h1, ext99]
  have hc : Extern.BytealgCompare.compare #[.string a, .string b] = (do pure (goInt (Extern.BytealgCompare.cmp (← Extern.Bytes.bytesOf (.string a)) (← Extern.Bytes.bytesOf (.string b))))) := rfl
  rw [hc]
  simp [Extern.Bytes.bytesOf, goInt]

theorem ok : EnvOk (env Try.prog) := env_ok tys mixed fns xts

theorem here : (tget (env Try.prog).ff 3).isSome = true := by kernel_rfl

set_option maxRecDepth 100000 in
theorem runs : callK (env Try.prog) 1000000 1000 3 [] ⟨.nil, 0⟩ kTrue = True := by kernel_rfl

theorem walk (w : World) : Calls Try.prog 3 #[] w fun e w' => e = .returned (.bool true) ∧ Below w.heap.size w w' := by
  obtain ⟨fn, hfn⟩ := Option.isSome_iff_exists.1 here
  exact law_fast ok hfn runs w

set_option maxRecDepth 100000 in
theorem lifted (os : Os) (started : os.Started) (H : Type) (enc : TypeId × Value → H) :
    ReturnsInHanded {} Try.checked os 3 .any (Rows.exprFormsSpec.pre6 enc Try.prog Try.f3 Rows.exprFormsRow.domain false) (Rows.exprFormsSpec.post enc Try.prog Try.f3 false true false false) := by
  refine returnsInHanded_of_change (C := Try.checked) own started (by kernel_rfl) Try.func3
    (ChangeSpec.witness6 (enc := enc) (C := Try.checked) false ⟨#[], #[], []⟩ 8 (by kernel_rfl) (by kernel_rfl) (by kernel_rfl) (by kernel_rfl)) ?_
  intro W base args ds gs before hval0 hW hcnd _
  have hW' := hW
  obtain ⟨p, q, hA0, hV, rfl, hfz, hnd⟩ := hW
  have hA : DataW.TrodAll enc Try.prog W 0 (fun _ => true) true Try.f3.params.toList args.toList ds p := hA0
  rw [Try.params3] at hA
  obtain ⟨rfl, rfl, rfl⟩ := trodAll_none hA
  obtain ⟨rfl, rfl⟩ := trodVars_none hV
  clear hA0 hval0
  simp only [List.append_nil] at hW'
  refine (walk W).mono fun e W' ⟨he, bel⟩ => ?_
  subst he
  exact ⟨_, rfl, _, _, _, [], [], [], hW', trodAll_mk1 (shut_bool Try.underlying4 _), trodAll_mk0, rfl, bel.frame _, fun h => by cases h⟩

theorem over : Rows.exprFormsRow.holds Try.pinned (OpenSpec.ofChange Rows.exprFormsSpec) :=
  OpenClaim.holds_of_wide 3 Try.f3 rfl rfl rfl rfl rfl rfl rfl ⟨rfl, rfl, rfl, rfl, rfl⟩ rfl rfl rfl rfl rfl (by kernel_rfl) Try.func3 (by kernel_rfl)
    (of_decide_eq_true (by kernel_rfl)) (by unfold Func.isWrapper; first | (rw [if_pos (by decide +kernel)]; kernel_rfl) | (rw [if_neg (by decide +kernel)]; exact ⟨rfl, rfl⟩))
    (fun os started H enc _ => lifted os started H enc)
end Forms

theorem ExprForms_holds : Rows.ExprFormsSaid := Forms.over
#print axioms ExprForms_holds
end Go.Proofs.Ytidjffabmhepeab
