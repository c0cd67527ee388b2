/-
  The law NfaForms returns true, in whatever world it is called; nothing that was there is changed. No conditions.
  How: the call is reckoned by an evaluator over named memory (the texts Ev..), which is proved right for every world, every order that is left open and every capacity; the kernel runs it.
-/
import Derived.Test.YtpmnkhlbmbddeaaRows
import Derived.Test.YtpmnkhlbmbddeaaEvTab
import Derived.Test.YtpmnkhlbmbddeaaEvFast4
import Derived.WalkKit
import Derived.ProofKit
import Derived.OpenShut
import Derived.Below
namespace Go.Proofs.Ytpmnkhlbmbddeaa
open Go.ChangeShapes Go.WideShapes Go.ChangeAt Go.RowKit Go.Ev
namespace Forms
def tyL : List (Nat × TI) := [
  (1, ⟨1, 8, false, 8, 0, 0, [], [.nilFunc]⟩),
  (2, ⟨1, 8, false, 5, 0, 0, [], [.int .i64 0]⟩),
  (3, ⟨1, 8, false, 5, 0, 0, [], [.int .i64 0]⟩),
  (4, ⟨1, 1, false, 9, 0, 0, [], [.bool false]⟩),
  (5, ⟨1, 1, false, 6, 0, 0, [], [.int .u8 0]⟩),
  (6, ⟨1, 1, false, 6, 0, 0, [], [.int .u8 0]⟩),
  (7, ⟨4, 24, true, 3, 0, 0, [(0, 1), (1, 1), (2, 1), (3, 1)], [.int .i64 0, .int .i64 0, .bool false, .int .u8 0]⟩),
  (8, ⟨4, 24, true, 3, 0, 0, [(0, 1), (1, 1), (2, 1), (3, 1)], [.int .i64 0, .int .i64 0, .bool false, .int .u8 0]⟩),
  (9, ⟨1, 16, false, 4, 0, 0, [], [.string ⟨#[]⟩]⟩),
  (10, ⟨1, 16, false, 4, 0, 0, [], [.string ⟨#[]⟩]⟩),
  (11, ⟨1, 16, false, 4, 0, 0, [], [.string ⟨#[]⟩]⟩),
  (12, ⟨1, 8, false, 5, 0, 0, [], [.int .u64 0]⟩),
  (13, ⟨2, 24, true, 3, 0, 0, [(0, 1), (1, 1)], [.string ⟨#[]⟩, .int .u64 0]⟩),
  (14, ⟨2, 24, true, 3, 0, 0, [(0, 1), (1, 1)], [.string ⟨#[]⟩, .int .u64 0]⟩),
  (15, ⟨1, 8, false, 7, 129, 0, [], [.pointer none]⟩),
  (16, ⟨1, 8, false, 7, 132, 0, [], [.pointer none]⟩),
  (17, ⟨1, 8, false, 7, 141, 0, [], [.pointer none]⟩),
  (18, ⟨1, 8, true, 3, 0, 0, [(0, 1)], [.pointer none]⟩),
  (19, ⟨1, 8, true, 3, 0, 0, [(0, 1)], [.pointer none]⟩),
  (20, ⟨1, 16, false, 0, 0, 0, [], [.nilIface]⟩),
  (21, ⟨1, 4, false, 5, 0, 0, [], [.int .i32 0]⟩),
  (22, ⟨1, 24, false, 1, 5, 0, [], [.slice none 0 0]⟩),
  (23, ⟨1, 8, false, 8, 0, 0, [], [.nilFunc]⟩),
  (24, ⟨1, 24, false, 1, 36, 0, [], [.slice none 0 0]⟩),
  (25, ⟨1, 8, false, 8, 0, 0, [], [.nilFunc]⟩),
  (26, ⟨1, 24, false, 1, 60, 0, [], [.slice none 0 0]⟩),
  (27, ⟨1, 8, false, 8, 0, 0, [], [.nilFunc]⟩),
  (28, ⟨1, 8, false, 8, 0, 0, [], [.nilFunc]⟩),
  (29, ⟨1, 24, false, 1, 9, 0, [], [.slice none 0 0]⟩),
  (31, ⟨1, 8, false, 8, 0, 0, [], [.nilFunc]⟩),
  (32, ⟨1, 8, false, 8, 0, 0, [], [.nilFunc]⟩),
  (33, ⟨1, 8, false, 8, 0, 0, [], [.nilFunc]⟩),
  (34, ⟨1, 8, false, 8, 0, 0, [], [.nilFunc]⟩),
  (35, ⟨1, 24, false, 1, 3, 0, [], [.slice none 0 0]⟩),
  (36, ⟨1, 24, false, 1, 43, 0, [], [.slice none 0 0]⟩),
  (38, ⟨1, 8, false, 8, 0, 0, [], [.nilFunc]⟩),
  (39, ⟨2, 2, true, 3, 0, 0, [(0, 1), (1, 1)], [.int .u8 0, .int .u8 0]⟩),
  (40, ⟨2, 2, true, 3, 0, 0, [(0, 1), (1, 1)], [.int .u8 0, .int .u8 0]⟩),
  (41, ⟨1, 24, false, 1, 40, 0, [], [.slice none 0 0]⟩),
  (42, ⟨2, 32, true, 3, 0, 0, [(0, 1), (1, 1)], [.int .i64 0, .slice none 0 0]⟩),
  (43, ⟨2, 32, true, 3, 0, 0, [(0, 1), (1, 1)], [.int .i64 0, .slice none 0 0]⟩),
  (45, ⟨1, 8, false, 8, 0, 0, [], [.nilFunc]⟩),
  (46, ⟨1, 24, false, 1, 73, 0, [], [.slice none 0 0]⟩),
  (47, ⟨1, 8, false, 7, 75, 0, [], [.pointer none]⟩),
  (48, ⟨1, 8, false, 8, 0, 0, [], [.nilFunc]⟩),
  (49, ⟨1, 8, false, 8, 0, 0, [], [.nilFunc]⟩),
  (50, ⟨1, 24, true, 3, 0, 0, [(0, 1)], [.slice none 0 0]⟩),
  (51, ⟨1, 24, true, 3, 0, 0, [(0, 1)], [.slice none 0 0]⟩),
  (52, ⟨1, 8, false, 8, 0, 0, [], [.nilFunc]⟩),
  (53, ⟨1, 24, false, 1, 55, 0, [], [.slice none 0 0]⟩),
  (54, ⟨3, 56, true, 3, 0, 0, [(0, 2), (2, 1)], [.int .i64 0, .slice none 0 0, .slice none 0 0]⟩),
  (55, ⟨3, 56, true, 3, 0, 0, [(0, 2), (2, 1)], [.int .i64 0, .slice none 0 0, .slice none 0 0]⟩),
  (57, ⟨1, 8, false, 8, 0, 0, [], [.nilFunc]⟩),
  (58, ⟨1, 8, false, 8, 0, 0, [], [.nilFunc]⟩),
  (59, ⟨5, 48, true, 3, 0, 0, [(0, 1), (1, 1), (2, 1), (3, 1), (4, 1)], [.int .u8 0, .int .u8 0, .int .i64 0, .slice none 0 0, .int .i64 0]⟩),
  (60, ⟨5, 48, true, 3, 0, 0, [(0, 1), (1, 1), (2, 1), (3, 1), (4, 1)], [.int .u8 0, .int .u8 0, .int .i64 0, .slice none 0 0, .int .i64 0]⟩),
  (61, ⟨1, 8, false, 8, 0, 0, [], [.nilFunc]⟩),
  (62, ⟨1, 8, false, 7, 87, 0, [], [.pointer none]⟩),
  (63, ⟨1, 8, false, 8, 0, 0, [], [.nilFunc]⟩),
  (64, ⟨1, 8, false, 8, 0, 0, [], [.nilFunc]⟩),
  (65, ⟨1, 8, false, 8, 0, 0, [], [.nilFunc]⟩),
  (66, ⟨1, 24, false, 1, 4, 0, [], [.slice none 0 0]⟩),
  (67, ⟨1, 8, false, 8, 0, 0, [], [.nilFunc]⟩),
  (68, ⟨1, 8, false, 7, 70, 0, [], [.pointer none]⟩),
  (69, ⟨3, 32, true, 3, 0, 0, [(0, 1), (1, 1), (2, 1)], [.string ⟨#[]⟩, .int .i64 0, .bool false]⟩),
  (70, ⟨3, 32, true, 3, 0, 0, [(0, 1), (1, 1), (2, 1)], [.string ⟨#[]⟩, .int .i64 0, .bool false]⟩),
  (71, ⟨1, 8, false, 8, 0, 0, [], [.nilFunc]⟩),
  (72, ⟨3, 40, true, 3, 0, 0, [(0, 1), (1, 1), (2, 1)], [.string ⟨#[]⟩, .string ⟨#[]⟩, .bool false]⟩),
  (73, ⟨3, 40, true, 3, 0, 0, [(0, 1), (1, 1), (2, 1)], [.string ⟨#[]⟩, .string ⟨#[]⟩, .bool false]⟩),
  (74, ⟨2, 32, true, 3, 0, 0, [(0, 1), (1, 1)], [.slice none 0 0, .int .i64 0]⟩),
  (75, ⟨2, 32, true, 3, 0, 0, [(0, 1), (1, 1)], [.slice none 0 0, .int .i64 0]⟩),
  (76, ⟨1, 8, false, 8, 0, 0, [], [.nilFunc]⟩),
  (77, ⟨1, 8, false, 8, 0, 0, [], [.nilFunc]⟩),
  (78, ⟨1, 8, false, 7, 51, 0, [], [.pointer none]⟩),
  (79, ⟨1, 8, false, 8, 0, 0, [], [.nilFunc]⟩),
  (81, ⟨1, 8, false, 8, 0, 0, [], [.nilFunc]⟩),
  (82, ⟨1, 8, false, 8, 0, 0, [], [.nilFunc]⟩),
  (83, ⟨1, 8, false, 7, 91, 0, [], [.pointer none]⟩),
  (84, ⟨1, 8, false, 8, 0, 0, [], [.nilFunc]⟩),
  (85, ⟨1, 8, false, 5, 0, 0, [], [.int .i64 0]⟩),
  (86, ⟨3, 40, true, 3, 0, 0, [(0, 1), (1, 1), (2, 1)], [.slice none 0 0, .pointer none, .pointer none]⟩),
  (87, ⟨3, 40, true, 3, 0, 0, [(0, 1), (1, 1), (2, 1)], [.slice none 0 0, .pointer none, .pointer none]⟩),
  (88, ⟨1, 8, false, 8, 0, 0, [], [.nilFunc]⟩),
  (89, ⟨1, 24, false, 1, 85, 0, [], [.slice none 0 0]⟩),
  (90, ⟨2, 48, true, 3, 0, 0, [(0, 1), (1, 1)], [.slice none 0 0, .slice none 0 0]⟩),
  (91, ⟨2, 48, true, 3, 0, 0, [(0, 1), (1, 1)], [.slice none 0 0, .slice none 0 0]⟩),
  (92, ⟨1, 8, false, 8, 0, 0, [], [.nilFunc]⟩),
  (93, ⟨1, 8, false, 8, 0, 0, [], [.nilFunc]⟩),
  (94, ⟨1, 8, false, 8, 0, 0, [], [.nilFunc]⟩),
  (95, ⟨1, 8, false, 8, 0, 0, [], [.nilFunc]⟩),
  (96, ⟨1, 8, false, 8, 0, 0, [], [.nilFunc]⟩),
  (97, ⟨1, 8, false, 8, 0, 0, [], [.nilFunc]⟩),
  (98, ⟨1, 8, false, 8, 0, 0, [], [.nilFunc]⟩),
  (99, ⟨1, 8, false, 8, 0, 0, [], [.nilFunc]⟩),
  (100, ⟨1, 8, false, 8, 0, 0, [], [.nilFunc]⟩),
  (101, ⟨1, 8, false, 8, 0, 0, [], [.nilFunc]⟩),
  (102, ⟨1, 8, false, 8, 0, 0, [], [.nilFunc]⟩),
  (103, ⟨1, 24, false, 1, 105, 0, [], [.slice none 0 0]⟩),
  (104, ⟨2, 16, true, 3, 0, 0, [(0, 1), (1, 1)], [.bool false, .int .i64 0]⟩),
  (105, ⟨2, 16, true, 3, 0, 0, [(0, 1), (1, 1)], [.bool false, .int .i64 0]⟩),
  (106, ⟨3, 40, true, 3, 0, 0, [(0, 1), (1, 1), (2, 1)], [.bool false, .slice none 0 0, .int .i64 0]⟩),
  (107, ⟨3, 40, true, 3, 0, 0, [(0, 1), (1, 1), (2, 1)], [.bool false, .slice none 0 0, .int .i64 0]⟩),
  (108, ⟨7, 104, true, 3, 0, 0, [(0, 1), (1, 1), (2, 2), (4, 3)], [.slice none 0 0, .slice none 0 0, .bool false, .int .i64 0, .bool false, .slice none 0 0, .int .i64 0]⟩),
  (109, ⟨7, 104, true, 3, 0, 0, [(0, 1), (1, 1), (2, 2), (4, 3)], [.slice none 0 0, .slice none 0 0, .bool false, .int .i64 0, .bool false, .slice none 0 0, .int .i64 0]⟩),
  (110, ⟨1, 8, false, 8, 0, 0, [], [.nilFunc]⟩),
  (111, ⟨1, 8, false, 8, 0, 0, [], [.nilFunc]⟩),
  (112, ⟨1, 8, false, 8, 0, 0, [], [.nilFunc]⟩),
  (113, ⟨2, 2, true, 3, 0, 0, [(0, 1), (1, 1)], [.int .u8 0, .bool false]⟩),
  (114, ⟨2, 2, true, 3, 0, 0, [(0, 1), (1, 1)], [.int .u8 0, .bool false]⟩),
  (115, ⟨1, 8, false, 8, 0, 0, [], [.nilFunc]⟩),
  (116, ⟨1, 8, false, 8, 0, 0, [], [.nilFunc]⟩),
  (117, ⟨1, 8, false, 8, 0, 0, [], [.nilFunc]⟩),
  (118, ⟨1, 8, false, 8, 0, 0, [], [.nilFunc]⟩),
  (119, ⟨1, 8, false, 7, 109, 0, [], [.pointer none]⟩),
  (120, ⟨1, 8, false, 8, 0, 0, [], [.nilFunc]⟩),
  (121, ⟨1, 8, false, 8, 0, 0, [], [.nilFunc]⟩),
  (122, ⟨1, 8, false, 8, 0, 0, [], [.nilFunc]⟩),
  (123, ⟨1, 8, false, 8, 0, 0, [], [.nilFunc]⟩),
  (124, ⟨1, 8, false, 8, 0, 0, [], [.nilFunc]⟩),
  (125, ⟨1, 8, false, 8, 0, 0, [], [.nilFunc]⟩),
  (126, ⟨1, 8, false, 8, 0, 0, [], [.nilFunc]⟩),
  (127, ⟨1, 8, false, 7, 107, 0, [], [.pointer none]⟩),
  (128, ⟨4, 40, true, 3, 0, 0, [(0, 1), (1, 1), (2, 1), (3, 1)], [.pointer none, .pointer none, .pointer none, .string ⟨#[]⟩]⟩),
  (129, ⟨4, 40, true, 3, 0, 0, [(0, 1), (1, 1), (2, 1), (3, 1)], [.pointer none, .pointer none, .pointer none, .string ⟨#[]⟩]⟩),
  (130, ⟨0, 0, true, 2, 16, 0, [], []⟩),
  (131, ⟨0, 0, true, 3, 0, 0, [(0, 0)], []⟩),
  (132, ⟨0, 0, true, 3, 0, 0, [(0, 0)], []⟩),
  (133, ⟨1, 4, false, 5, 0, 0, [], [.int .u32 0]⟩),
  (134, ⟨1, 1, false, 6, 0, 0, [], [.int .u8 0]⟩),
  (135, ⟨1, 1, false, 6, 0, 0, [], [.int .u8 0]⟩),
  (136, ⟨1, 8, false, 8, 0, 0, [], [.nilFunc]⟩),
  (137, ⟨1, 8, false, 7, 5, 0, [], [.pointer none]⟩),
  (138, ⟨1, 4, false, 5, 0, 0, [], [.int .i32 0]⟩),
  (139, ⟨1, 4, false, 5, 0, 0, [], [.int .i32 0]⟩),
  (140, ⟨11, 48, true, 3, 0, 0, [(0, 1), (1, 1), (2, 1), (3, 1), (4, 1), (5, 1), (6, 1), (7, 1), (8, 1), (9, 1), (10, 1)], [.int .u64 0, .int .u64 0, .int .u32 0, .int .u8 0, .int .u8 0, .int .u8 0, .int .u8 0, .nilFunc, .pointer none, .int .i32 0, .int .i32 0]⟩),
  (141, ⟨11, 48, true, 3, 0, 0, [(0, 1), (1, 1), (2, 1), (3, 1), (4, 1), (5, 1), (6, 1), (7, 1), (8, 1), (9, 1), (10, 1)], [.int .u64 0, .int .u64 0, .int .u32 0, .int .u8 0, .int .u8 0, .int .u8 0, .int .u8 0, .nilFunc, .pointer none, .int .i32 0, .int .i32 0]⟩),
  (142, ⟨1, 8, false, 0, 0, 0, [], [.pointer none]⟩)]
def fnL : List Nat := [5, 7, 9, 11, 13, 17, 18, 19, 20, 21, 22, 23, 24, 26, 29, 30, 31, 32, 33, 34, 35, 36, 37, 40, 41, 42, 43, 44, 45, 46, 47, 48, 49, 50, 51, 52, 53, 54, 55, 56, 57, 58, 59, 60, 61, 62, 63, 64, 65, 66, 67, 68, 69, 70, 71, 72, 73, 74, 75, 76, 77, 78, 79, 80, 81]
def xtL : List (Nat × Nat) := [(82, 3)]
def plL : List (Nat × List (Nat × List Stage)) := [
  (5, [(9, [⟨[0, 1, 3, 4, 5, 6], [], [], some 2⟩, ⟨[], [3, 4, 5, 6], [], some 7⟩, ⟨[8, 9, 10, 11, 12, 13, 14], [], [], none⟩])]),
  (9, [(11, [⟨[0, 1, 2, 3, 4, 5, 6, 7, 8, 9, 10], [], [], some 11⟩, ⟨[12, 13], [0, 1, 2], [], some 14⟩, ⟨[], [], [], none⟩])]),
  (19, [(1, [⟨[0, 1, 2, 3, 4, 5, 6], [], [], some 7⟩, ⟨[8, 9], [0], [], some 10⟩, ⟨[], [], [], none⟩])]),
  (20, [(3, [⟨[0, 1, 2, 3, 4, 5, 6, 7, 8, 9, 10], [], [], some 11⟩, ⟨[], [0, 1, 2, 3, 4], [], some 12⟩, ⟨[13], [], [], none⟩]), (5, [⟨[0, 1, 2, 3, 4, 5, 6, 8, 9, 10, 11, 12, 13], [], [], some 7⟩, ⟨[], [0, 8, 9, 10, 11, 12, 13], [], some 14⟩, ⟨[15], [0], [], some 16⟩, ⟨[17], [], [], none⟩])]),
  (22, [(6, [⟨[0, 1, 2, 3, 4, 5], [], [], some 6⟩, ⟨[], [], [], none⟩]), (8, [⟨[0, 1, 2, 3, 4, 5, 6, 7, 8, 9, 10, 11], [], [], some 12⟩, ⟨[13, 14], [1], [], some 15⟩, ⟨[], [], [], none⟩])]),
  (29, [(11, [⟨[0, 1, 2, 3, 4, 5, 6], [], [], some 7⟩, ⟨[8], [], [], none⟩])]),
  (31, [(5, [⟨[0, 1, 2, 3, 5, 6, 7, 8], [], [], some 4⟩, ⟨[], [5, 6, 7, 8], [], some 9⟩, ⟨[10, 11], [], [], none⟩]), (7, [⟨[0, 1, 2, 3, 6, 7, 8, 9], [], [], some 4⟩, ⟨[5], [6, 7, 8, 9], [], some 10⟩, ⟨[11, 12], [5], [], none⟩])]),
  (35, [(1, [⟨[0, 1, 2, 3, 4, 5, 6, 7, 8, 9, 10], [], [], some 11⟩, ⟨[], [], [], none⟩])]),
  (36, [(3, [⟨[0, 1, 2, 3, 4, 5, 6, 7, 8, 9, 10, 11, 12, 13, 14, 15, 16, 17, 18], [], [], none⟩])]),
  (40, [(2, [⟨[0, 1, 2, 3, 4, 5, 6, 7, 8, 9, 10, 11, 12, 13, 14, 15, 16, 17, 18], [], [], some 19⟩, ⟨[20, 21, 22, 23], [], [], some 24⟩, ⟨[25, 26], [], [], none⟩])]),
  (41, [(1, [⟨[0, 1, 2, 3, 4, 5, 6, 7, 8, 9], [], [], none⟩]), (3, [⟨[0, 1, 2, 3, 4, 5, 6, 7, 8, 9], [], [], none⟩])]),
  (52, [(6, [⟨[0, 1, 2, 3, 4, 5, 6, 7, 8], [], [], none⟩])]),
  (53, [(3, [⟨[0, 1, 4, 5], [], [], some 2⟩, ⟨[3], [4, 5], [], some 6⟩, ⟨[7, 8], [3], [], none⟩])]),
  (63, [(2, [⟨[0, 1, 2, 3, 4], [], [], some 5⟩, ⟨[6], [], [], none⟩])]),
  (74, [(4, [⟨[0, 1, 2, 3, 4, 5, 6, 7, 8, 9], [], [], some 10⟩, ⟨[11, 12], [0], [], some 13⟩, ⟨[], [], [], none⟩])]),
  (75, [(4, [⟨[0, 1, 2, 3, 4, 5, 6, 7, 8, 9, 10, 11, 12, 13, 14, 15, 16], [], [], some 17⟩, ⟨[18, 19], [1, 13, 14], [], some 20⟩, ⟨[], [], [], none⟩])])]

def env (P : Program) : Env := envOf P tyL fnL plL xtL

theorem tys : tysOk Try.prog tyL := by unfold tysOk; kernel_rfl
theorem mixed : Try.prog.follows .mixedOrders = true := by kernel_rfl
theorem fns : (fnsOf Try.prog fnL).all (fnOk (env Try.prog)) = true := by kernel_rfl
theorem own : ownKnob Try.prog.godebug = none := by kernel_rfl

theorem xts : ∀ g, (g, 1) ∈ xtL → ∀ a b w, (callFunc g #[.string a, .string b]).run Try.prog w = .ok (.value (.int .i64 (Extern.BytealgCompare.cmp a b))) w := by
  intro g hg
  simp [xtL] at hg

theorem ext82 : Extern.find Try.f82 = some Extern.BytealgIndexByte.indexByte := by kernel_rfl
theorem ext82' : (Extern.findNext Try.f82).isSome = false := by kernel_rfl
theorem name82 : (Try.f82.name == "runtime.NumGoroutine") = false := by kernel_rfl
theorem body82 : Try.f82.body.isNone = true := by kernel_rfl
theorem xts3 : ∀ g, (g, 3) ∈ xtL → ∀ s c w, (callFunc g #[.string s, .int .u8 c]).run Try.prog w = .ok (.value (.int .i64 (idxB s c))) w := by
  intro g hg s c w
  have e : g = 82 := by simpa [xtL] using hg
  subst e
  have h1 : Extern.findNext Try.f82 = none := by
    cases h : Extern.findNext Try.f82 with
    | none => rfl
    | some x => have := ext82'; rw [h] at this; cases this
  simp only [callFunc, Sem.run_bind, run_program, Result.andThen_ok, Try.func82, name82, body82, Bool.false_eq_true, if_false, if_true, run_mark, h1, ext82]
  have hc : Extern.BytealgIndexByte.indexByte #[.string s, .int .u8 c] = (do
      let b ← Extern.Bytes.bytesOf (.string s)
      let c ← Extern.Bytes.asByte (.int .u8 c)
      match (List.range b.size).find? fun i => b[i]! == c with
      | some i => pure (goInt i)
      | none => pure (goInt (-1))) := rfl
  rw [hc]
  simp only [Extern.Bytes.bytesOf, Extern.Bytes.asByte, pure_bind, idxB]
  cases (List.range s.size).find? fun i => s[i]! == c.toNat.toUInt8 <;> simp [goInt]


theorem ok : EnvOk (env Try.prog) := env_ok tys mixed fns xts xts3 (fun g hg => by simp [xtL] at hg)

theorem here : (tget (env Try.prog).ff 5).isSome = true := by kernel_rfl

set_option maxRecDepth 100000 in
theorem runs : callK (env Try.prog) 1000000 1000 5 [] ⟨.nil, 0⟩ kTrue = True := by kernel_rfl

theorem walk (w : World) : Calls Try.prog 5 #[] w fun e w' => e = .returned (.bool true) ∧ Below w.heap.size w w' := by
  obtain ⟨fn, hfn⟩ := Option.isSome_iff_exists.1 here
  exact law_fast ok hfn (by unfold unkU; omega) runs w

set_option maxRecDepth 100000 in
theorem lifted (os : Os) (started : os.Started) (H : Type) (enc : TypeId × Value → H) :
    ReturnsInHanded {} Try.checked os 5 .any (Rows.nfaFormsSpec.pre6 enc Try.prog Try.f5 Rows.nfaFormsRow.domain false) (Rows.nfaFormsSpec.post enc Try.prog Try.f5 false true false false) := by
  refine returnsInHanded_of_change (C := Try.checked) own started (by kernel_rfl) Try.func5
    (ChangeSpec.witness6 (enc := enc) (C := Try.checked) false ⟨#[], #[], []⟩ 8 (by kernel_rfl) (by kernel_rfl) (by kernel_rfl) (by kernel_rfl)) ?_
  intro W base args ds gs before hval0 hW hcnd _
  have hW' := hW
  obtain ⟨p, q, hA0, hV, rfl, hfz, hnd⟩ := hW
  have hA : DataW.TrodAll enc Try.prog W 0 (fun _ => true) true Try.f5.params.toList args.toList ds p := hA0
  rw [Try.params5] at hA
  obtain ⟨rfl, rfl, rfl⟩ := trodAll_none hA
  obtain ⟨rfl, rfl⟩ := trodVars_none hV
  clear hA0 hval0
  simp only [List.append_nil] at hW'
  refine (walk W).mono fun e W' ⟨he, bel⟩ => ?_
  subst he
  exact ⟨_, rfl, _, _, _, [], [], [], hW', trodAll_mk1 (shut_bool Try.underlying4 _), trodAll_mk0, rfl, bel.frame _, fun h => by cases h⟩

theorem over : Rows.nfaFormsRow.holds Try.pinned (OpenSpec.ofChange Rows.nfaFormsSpec) :=
  OpenClaim.holds_of_wide 5 Try.f5 rfl rfl rfl rfl rfl rfl rfl ⟨rfl, rfl, rfl, rfl, rfl⟩ rfl rfl rfl rfl rfl (by kernel_rfl) Try.func5 (by kernel_rfl)
    (of_decide_eq_true (by kernel_rfl)) (by unfold Func.isWrapper; first | (rw [if_pos (by decide +kernel)]; kernel_rfl) | (rw [if_neg (by decide +kernel)]; exact ⟨rfl, rfl⟩))
    (fun os started H enc _ => lifted os started H enc)
end Forms

theorem NfaForms_holds : Rows.NfaFormsSaid := Forms.over
#print axioms NfaForms_holds
end Go.Proofs.Ytpmnkhlbmbddeaa
