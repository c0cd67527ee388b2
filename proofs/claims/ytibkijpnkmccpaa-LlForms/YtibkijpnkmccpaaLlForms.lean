/-
  The law LlForms returns true, in whatever world it is called; nothing that was there is changed. No conditions.
  How: the call is reckoned by an evaluator over named memory (the texts Ev..), which is proved right for every world, every order that is left open and every capacity; the kernel runs it.
-/
import Derived.Test.YtibkijpnkmccpaaRows
import Derived.Test.YtibkijpnkmccpaaEvTab
import Derived.Test.YtibkijpnkmccpaaEvFast4
import Derived.WalkKit
import Derived.ProofKit
import Derived.OpenShut
import Derived.Below
namespace Go.Proofs.Ytibkijpnkmccpaa
open Go.ChangeShapes Go.WideShapes Go.ChangeAt Go.RowKit Go.Ev
namespace Forms
def tyL : List (Nat × TI) := [
  (1, ⟨1, 8, false, 8, 0, 0, [], [.nilFunc]⟩),
  (2, ⟨1, 8, false, 5, 0, 0, [], [.int .i64 0]⟩),
  (3, ⟨1, 8, false, 5, 0, 0, [], [.int .i64 0]⟩),
  (4, ⟨1, 1, false, 9, 0, 0, [], [.bool false]⟩),
  (5, ⟨1, 1, false, 6, 0, 0, [], [.int .u8 0]⟩),
  (6, ⟨1, 1, false, 6, 0, 0, [], [.int .u8 0]⟩),
  (7, ⟨4, 24, true, 3, 0, 0, [(0, 1), (1, 1), (2, 1), (3, 1)], [.int .i64 0, .int .i64 0, .bool false, .int .u8 0]⟩),
  (8, ⟨4, 24, true, 3, 0, 0, [(0, 1), (1, 1), (2, 1), (3, 1)], [.int .i64 0, .int .i64 0, .bool false, .int .u8 0]⟩),
  (9, ⟨1, 16, false, 4, 0, 0, [], [.string ⟨#[]⟩]⟩),
  (10, ⟨1, 16, false, 4, 0, 0, [], [.string ⟨#[]⟩]⟩),
  (11, ⟨1, 16, false, 4, 0, 0, [], [.string ⟨#[]⟩]⟩),
  (12, ⟨1, 8, false, 5, 0, 0, [], [.int .u64 0]⟩),
  (13, ⟨2, 24, true, 3, 0, 0, [(0, 1), (1, 1)], [.string ⟨#[]⟩, .int .u64 0]⟩),
  (14, ⟨2, 24, true, 3, 0, 0, [(0, 1), (1, 1)], [.string ⟨#[]⟩, .int .u64 0]⟩),
  (15, ⟨1, 8, false, 7, 161, 0, [], [.pointer none]⟩),
  (16, ⟨1, 8, false, 7, 164, 0, [], [.pointer none]⟩),
  (17, ⟨1, 8, false, 7, 173, 0, [], [.pointer none]⟩),
  (18, ⟨1, 8, true, 3, 0, 0, [(0, 1)], [.pointer none]⟩),
  (19, ⟨1, 8, true, 3, 0, 0, [(0, 1)], [.pointer none]⟩),
  (20, ⟨1, 16, false, 0, 0, 0, [], [.nilIface]⟩),
  (21, ⟨1, 4, false, 5, 0, 0, [], [.int .i32 0]⟩),
  (22, ⟨1, 24, false, 1, 5, 0, [], [.slice none 0 0]⟩),
  (23, ⟨1, 8, false, 8, 0, 0, [], [.nilFunc]⟩),
  (24, ⟨1, 24, false, 1, 55, 0, [], [.slice none 0 0]⟩),
  (25, ⟨1, 24, false, 1, 58, 0, [], [.slice none 0 0]⟩),
  (26, ⟨1, 24, false, 1, 45, 0, [], [.slice none 0 0]⟩),
  (27, ⟨3, 72, true, 3, 0, 0, [(0, 1), (1, 1), (2, 1)], [.slice none 0 0, .slice none 0 0, .slice none 0 0]⟩),
  (28, ⟨3, 72, true, 3, 0, 0, [(0, 1), (1, 1), (2, 1)], [.slice none 0 0, .slice none 0 0, .slice none 0 0]⟩),
  (29, ⟨1, 8, false, 7, 63, 0, [], [.pointer none]⟩),
  (30, ⟨1, 8, false, 8, 0, 0, [], [.nilFunc]⟩),
  (31, ⟨1, 8, false, 8, 0, 0, [], [.nilFunc]⟩),
  (32, ⟨1, 8, false, 8, 0, 0, [], [.nilFunc]⟩),
  (33, ⟨1, 24, false, 1, 28, 0, [], [.slice none 0 0]⟩),
  (34, ⟨1, 24, false, 1, 40, 0, [], [.slice none 0 0]⟩),
  (35, ⟨1, 24, false, 1, 39, 0, [], [.slice none 0 0]⟩),
  (37, ⟨1, 8, false, 8, 0, 0, [], [.nilFunc]⟩),
  (38, ⟨4, 32, true, 3, 0, 0, [(0, 1), (1, 1), (2, 1), (3, 1)], [.int .i64 0, .int .i64 0, .int .i64 0, .int .i64 0]⟩),
  (39, ⟨4, 32, true, 3, 0, 0, [(0, 1), (1, 1), (2, 1), (3, 1)], [.int .i64 0, .int .i64 0, .int .i64 0, .int .i64 0]⟩),
  (40, ⟨1, 24, false, 1, 3, 0, [], [.slice none 0 0]⟩),
  (41, ⟨1, 8, false, 8, 0, 0, [], [.nilFunc]⟩),
  (42, ⟨1, 24, false, 1, 53, 0, [], [.slice none 0 0]⟩),
  (43, ⟨1, 24, false, 1, 74, 0, [], [.slice none 0 0]⟩),
  (44, ⟨3, 56, true, 3, 0, 0, [(0, 1), (1, 1), (2, 1)], [.int .i64 0, .slice none 0 0, .slice none 0 0]⟩),
  (45, ⟨3, 56, true, 3, 0, 0, [(0, 1), (1, 1), (2, 1)], [.int .i64 0, .slice none 0 0, .slice none 0 0]⟩),
  (46, ⟨1, 24, false, 1, 4, 0, [], [.slice none 0 0]⟩),
  (47, ⟨1, 24, false, 1, 46, 0, [], [.slice none 0 0]⟩),
  (48, ⟨3, 72, true, 3, 0, 0, [(0, 1), (1, 1), (2, 1)], [.slice none 0 0, .slice none 0 0, .slice none 0 0]⟩),
  (49, ⟨3, 72, true, 3, 0, 0, [(0, 1), (1, 1), (2, 1)], [.slice none 0 0, .slice none 0 0, .slice none 0 0]⟩),
  (50, ⟨1, 8, false, 8, 0, 0, [], [.nilFunc]⟩),
  (51, ⟨1, 8, false, 8, 0, 0, [], [.nilFunc]⟩),
  (52, ⟨2, 16, true, 3, 0, 0, [(0, 1), (1, 1)], [.bool false, .int .i64 0]⟩),
  (53, ⟨2, 16, true, 3, 0, 0, [(0, 1), (1, 1)], [.bool false, .int .i64 0]⟩),
  (54, ⟨3, 40, true, 3, 0, 0, [(0, 1), (1, 1), (2, 1)], [.string ⟨#[]⟩, .string ⟨#[]⟩, .bool false]⟩),
  (55, ⟨3, 40, true, 3, 0, 0, [(0, 1), (1, 1), (2, 1)], [.string ⟨#[]⟩, .string ⟨#[]⟩, .bool false]⟩),
  (56, ⟨1, 24, false, 1, 9, 0, [], [.slice none 0 0]⟩),
  (57, ⟨3, 64, true, 3, 0, 0, [(0, 1), (1, 1), (2, 1)], [.string ⟨#[]⟩, .slice none 0 0, .slice none 0 0]⟩),
  (58, ⟨3, 64, true, 3, 0, 0, [(0, 1), (1, 1), (2, 1)], [.string ⟨#[]⟩, .slice none 0 0, .slice none 0 0]⟩),
  (59, ⟨1, 24, false, 1, 26, 0, [], [.slice none 0 0]⟩),
  (60, ⟨1, 24, false, 1, 35, 0, [], [.slice none 0 0]⟩),
  (61, ⟨1, 8, false, 8, 0, 0, [], [.nilFunc]⟩),
  (62, ⟨2, 32, true, 3, 0, 0, [(0, 1), (1, 1)], [.slice none 0 0, .int .i64 0]⟩),
  (63, ⟨2, 32, true, 3, 0, 0, [(0, 1), (1, 1)], [.slice none 0 0, .int .i64 0]⟩),
  (64, ⟨1, 8, false, 8, 0, 0, [], [.nilFunc]⟩),
  (65, ⟨1, 8, false, 8, 0, 0, [], [.nilFunc]⟩),
  (66, ⟨1, 24, false, 1, 68, 0, [], [.slice none 0 0]⟩),
  (67, ⟨4, 56, true, 3, 0, 0, [(0, 1), (1, 1), (2, 1), (3, 1)], [.int .i64 0, .int .i64 0, .string ⟨#[]⟩, .slice none 0 0]⟩),
  (68, ⟨4, 56, true, 3, 0, 0, [(0, 1), (1, 1), (2, 1), (3, 1)], [.int .i64 0, .int .i64 0, .string ⟨#[]⟩, .slice none 0 0]⟩),
  (69, ⟨1, 24, false, 1, 71, 0, [], [.slice none 0 0]⟩),
  (70, ⟨8, 104, true, 3, 0, 0, [(0, 1), (1, 4), (5, 1), (6, 1), (7, 1)], [.int .i64 0, .int .i64 0, .int .i64 0, .string ⟨#[]⟩, .slice none 0 0, .int .i64 0, .int .i64 0, .slice none 0 0]⟩),
  (71, ⟨8, 104, true, 3, 0, 0, [(0, 1), (1, 4), (5, 1), (6, 1), (7, 1)], [.int .i64 0, .int .i64 0, .int .i64 0, .string ⟨#[]⟩, .slice none 0 0, .int .i64 0, .int .i64 0, .slice none 0 0]⟩),
  (72, ⟨1, 8, false, 8, 0, 0, [], [.nilFunc]⟩),
  (73, ⟨10, 120, true, 3, 0, 0, [(0, 1), (1, 1), (2, 8)], [.int .i64 0, .int .i64 0, .int .i64 0, .int .i64 0, .int .i64 0, .string ⟨#[]⟩, .slice none 0 0, .int .i64 0, .int .i64 0, .slice none 0 0]⟩),
  (74, ⟨10, 120, true, 3, 0, 0, [(0, 1), (1, 1), (2, 8)], [.int .i64 0, .int .i64 0, .int .i64 0, .int .i64 0, .int .i64 0, .string ⟨#[]⟩, .slice none 0 0, .int .i64 0, .int .i64 0, .slice none 0 0]⟩),
  (75, ⟨1, 8, false, 8, 0, 0, [], [.nilFunc]⟩),
  (76, ⟨1, 8, false, 8, 0, 0, [], [.nilFunc]⟩),
  (77, ⟨1, 8, false, 8, 0, 0, [], [.nilFunc]⟩),
  (78, ⟨1, 24, false, 1, 103, 0, [], [.slice none 0 0]⟩),
  (79, ⟨1, 24, false, 1, 103, 0, [], [.slice none 0 0]⟩),
  (80, ⟨1, 8, false, 8, 0, 0, [], [.nilFunc]⟩),
  (81, ⟨1, 24, false, 1, 40, 0, [], [.slice none 0 0]⟩),
  (82, ⟨1, 8, false, 8, 0, 0, [], [.nilFunc]⟩),
  (83, ⟨1, 24, false, 1, 3, 0, [], [.slice none 0 0]⟩),
  (84, ⟨1, 8, false, 8, 0, 0, [], [.nilFunc]⟩),
  (85, ⟨1, 8, false, 8, 0, 0, [], [.nilFunc]⟩),
  (86, ⟨1, 8, false, 8, 0, 0, [], [.nilFunc]⟩),
  (87, ⟨1, 8, false, 8, 0, 0, [], [.nilFunc]⟩),
  (89, ⟨1, 8, false, 8, 0, 0, [], [.nilFunc]⟩),
  (90, ⟨1, 8, false, 8, 0, 0, [], [.nilFunc]⟩),
  (91, ⟨1, 8, false, 8, 0, 0, [], [.nilFunc]⟩),
  (92, ⟨1, 24, false, 1, 55, 0, [], [.slice none 0 0]⟩),
  (93, ⟨1, 24, false, 1, 58, 0, [], [.slice none 0 0]⟩),
  (94, ⟨1, 24, false, 1, 45, 0, [], [.slice none 0 0]⟩),
  (95, ⟨3, 72, true, 3, 0, 0, [(0, 1), (1, 1), (2, 1)], [.slice none 0 0, .slice none 0 0, .slice none 0 0]⟩),
  (96, ⟨3, 72, true, 3, 0, 0, [(0, 1), (1, 1), (2, 1)], [.slice none 0 0, .slice none 0 0, .slice none 0 0]⟩),
  (97, ⟨1, 8, false, 8, 0, 0, [], [.nilFunc]⟩),
  (98, ⟨1, 24, false, 1, 46, 0, [], [.slice none 0 0]⟩),
  (99, ⟨1, 8, false, 8, 0, 0, [], [.nilFunc]⟩),
  (100, ⟨1, 8, false, 8, 0, 0, [], [.nilFunc]⟩),
  (101, ⟨1, 8, false, 8, 0, 0, [], [.nilFunc]⟩),
  (102, ⟨1, 8, false, 8, 0, 0, [], [.nilFunc]⟩),
  (103, ⟨1, 24, false, 1, 83, 0, [], [.slice none 0 0]⟩),
  (104, ⟨1, 8, false, 8, 0, 0, [], [.nilFunc]⟩),
  (105, ⟨1, 8, false, 8, 0, 0, [], [.nilFunc]⟩),
  (106, ⟨1, 8, false, 8, 0, 0, [], [.nilFunc]⟩),
  (107, ⟨1, 8, false, 8, 0, 0, [], [.nilFunc]⟩),
  (108, ⟨1, 8, false, 8, 0, 0, [], [.nilFunc]⟩),
  (109, ⟨1, 8, false, 8, 0, 0, [], [.nilFunc]⟩),
  (110, ⟨1, 8, false, 8, 0, 0, [], [.nilFunc]⟩),
  (111, ⟨1, 8, false, 8, 0, 0, [], [.nilFunc]⟩),
  (112, ⟨1, 8, false, 8, 0, 0, [], [.nilFunc]⟩),
  (113, ⟨1, 8, false, 8, 0, 0, [], [.nilFunc]⟩),
  (114, ⟨1, 24, false, 1, 9, 0, [], [.slice none 0 0]⟩),
  (115, ⟨1, 8, false, 8, 0, 0, [], [.nilFunc]⟩),
  (116, ⟨1, 8, false, 8, 0, 0, [], [.nilFunc]⟩),
  (117, ⟨1, 8, false, 8, 0, 0, [], [.nilFunc]⟩),
  (118, ⟨1, 24, false, 1, 53, 0, [], [.slice none 0 0]⟩),
  (119, ⟨1, 8, false, 8, 0, 0, [], [.nilFunc]⟩),
  (120, ⟨1, 8, false, 8, 0, 0, [], [.nilFunc]⟩),
  (121, ⟨1, 8, false, 8, 0, 0, [], [.nilFunc]⟩),
  (122, ⟨1, 8, false, 8, 0, 0, [], [.nilFunc]⟩),
  (123, ⟨1, 24, false, 1, 126, 0, [], [.slice none 0 0]⟩),
  (124, ⟨1, 8, false, 8, 0, 0, [], [.nilFunc]⟩),
  (125, ⟨9, 9, true, 2, 4, 9, [], [.bool false, .bool false, .bool false, .bool false, .bool false, .bool false, .bool false, .bool false, .bool false]⟩),
  (126, ⟨9, 9, true, 2, 4, 9, [], [.bool false, .bool false, .bool false, .bool false, .bool false, .bool false, .bool false, .bool false, .bool false]⟩),
  (127, ⟨1, 1, false, 9, 0, 0, [], [.bool false]⟩),
  (129, ⟨1, 24, false, 1, 127, 0, [], [.slice none 0 0]⟩),
  (130, ⟨3, 56, true, 3, 0, 0, [(0, 1), (1, 1), (2, 1)], [.int .i64 0, .slice none 0 0, .slice none 0 0]⟩),
  (131, ⟨3, 56, true, 3, 0, 0, [(0, 1), (1, 1), (2, 1)], [.int .i64 0, .slice none 0 0, .slice none 0 0]⟩),
  (132, ⟨1, 8, false, 8, 0, 0, [], [.nilFunc]⟩),
  (133, ⟨1, 8, false, 8, 0, 0, [], [.nilFunc]⟩),
  (134, ⟨1, 8, false, 8, 0, 0, [], [.nilFunc]⟩),
  (135, ⟨1, 8, false, 8, 0, 0, [], [.nilFunc]⟩),
  (136, ⟨1, 8, false, 8, 0, 0, [], [.nilFunc]⟩),
  (137, ⟨1, 24, false, 1, 56, 0, [], [.slice none 0 0]⟩),
  (138, ⟨1, 8, false, 8, 0, 0, [], [.nilFunc]⟩),
  (139, ⟨1, 8, false, 8, 0, 0, [], [.nilFunc]⟩),
  (140, ⟨1, 8, false, 7, 150, 0, [], [.pointer none]⟩),
  (141, ⟨1, 8, false, 8, 0, 0, [], [.nilFunc]⟩),
  (142, ⟨1, 8, false, 8, 0, 0, [], [.nilFunc]⟩),
  (143, ⟨1, 8, false, 8, 0, 0, [], [.nilFunc]⟩),
  (144, ⟨1, 8, false, 8, 0, 0, [], [.nilFunc]⟩),
  (145, ⟨1, 8, false, 8, 0, 0, [], [.nilFunc]⟩),
  (146, ⟨1, 8, false, 8, 0, 0, [], [.nilFunc]⟩),
  (147, ⟨1, 8, false, 8, 0, 0, [], [.nilFunc]⟩),
  (148, ⟨1, 8, false, 8, 0, 0, [], [.nilFunc]⟩),
  (149, ⟨2, 32, true, 3, 0, 0, [(0, 1), (1, 1)], [.slice none 0 0, .bool false]⟩),
  (150, ⟨2, 32, true, 3, 0, 0, [(0, 1), (1, 1)], [.slice none 0 0, .bool false]⟩),
  (151, ⟨1, 8, false, 8, 0, 0, [], [.nilFunc]⟩),
  (152, ⟨1, 8, false, 7, 156, 0, [], [.pointer none]⟩),
  (153, ⟨1, 8, false, 8, 0, 0, [], [.nilFunc]⟩),
  (154, ⟨1, 8, false, 8, 0, 0, [], [.nilFunc]⟩),
  (155, ⟨2, 32, true, 3, 0, 0, [(0, 1), (1, 1)], [.slice none 0 0, .bool false]⟩),
  (156, ⟨2, 32, true, 3, 0, 0, [(0, 1), (1, 1)], [.slice none 0 0, .bool false]⟩),
  (157, ⟨1, 8, false, 8, 0, 0, [], [.nilFunc]⟩),
  (158, ⟨1, 8, false, 8, 0, 0, [], [.nilFunc]⟩),
  (159, ⟨1, 8, false, 8, 0, 0, [], [.nilFunc]⟩),
  (160, ⟨4, 40, true, 3, 0, 0, [(0, 1), (1, 1), (2, 1), (3, 1)], [.pointer none, .pointer none, .pointer none, .string ⟨#[]⟩]⟩),
  (161, ⟨4, 40, true, 3, 0, 0, [(0, 1), (1, 1), (2, 1), (3, 1)], [.pointer none, .pointer none, .pointer none, .string ⟨#[]⟩]⟩),
  (162, ⟨0, 0, true, 2, 16, 0, [], []⟩),
  (163, ⟨0, 0, true, 3, 0, 0, [(0, 0)], []⟩),
  (164, ⟨0, 0, true, 3, 0, 0, [(0, 0)], []⟩),
  (165, ⟨1, 4, false, 5, 0, 0, [], [.int .u32 0]⟩),
  (166, ⟨1, 1, false, 6, 0, 0, [], [.int .u8 0]⟩),
  (167, ⟨1, 1, false, 6, 0, 0, [], [.int .u8 0]⟩),
  (168, ⟨1, 8, false, 8, 0, 0, [], [.nilFunc]⟩),
  (169, ⟨1, 8, false, 7, 5, 0, [], [.pointer none]⟩),
  (170, ⟨1, 4, false, 5, 0, 0, [], [.int .i32 0]⟩),
  (171, ⟨1, 4, false, 5, 0, 0, [], [.int .i32 0]⟩),
  (172, ⟨11, 48, true, 3, 0, 0, [(0, 1), (1, 1), (2, 1), (3, 1), (4, 1), (5, 1), (6, 1), (7, 1), (8, 1), (9, 1), (10, 1)], [.int .u64 0, .int .u64 0, .int .u32 0, .int .u8 0, .int .u8 0, .int .u8 0, .int .u8 0, .nilFunc, .pointer none, .int .i32 0, .int .i32 0]⟩),
  (173, ⟨11, 48, true, 3, 0, 0, [(0, 1), (1, 1), (2, 1), (3, 1), (4, 1), (5, 1), (6, 1), (7, 1), (8, 1), (9, 1), (10, 1)], [.int .u64 0, .int .u64 0, .int .u32 0, .int .u8 0, .int .u8 0, .int .u8 0, .int .u8 0, .nilFunc, .pointer none, .int .i32 0, .int .i32 0]⟩),
  (174, ⟨1, 8, false, 8, 0, 0, [], [.nilFunc]⟩),
  (175, ⟨1, 8, false, 8, 0, 0, [], [.nilFunc]⟩),
  (176, ⟨1, 8, false, 8, 0, 0, [], [.nilFunc]⟩),
  (177, ⟨1, 8, false, 8, 0, 0, [], [.nilFunc]⟩),
  (178, ⟨1, 8, false, 8, 0, 0, [], [.nilFunc]⟩),
  (179, ⟨1, 8, false, 0, 0, 0, [], [.pointer none]⟩),
  (180, ⟨1, 8, false, 8, 0, 0, [], [.nilFunc]⟩)]
def fnL : List Nat := [5, 7, 10, 11, 17, 18, 19, 20, 21, 22, 23, 24, 25, 31, 32, 33, 34, 35, 36, 38, 39, 40, 41, 42, 43, 44, 45, 46, 47, 48, 49, 50, 52, 53, 54, 55, 56, 57, 58, 59, 60, 61, 62, 63, 64, 65, 66, 67, 68, 69, 70, 71, 72, 73, 74, 75, 76, 77, 78, 79, 80, 81, 82, 83, 84, 110]
def xtL : List (Nat × Nat) := []
def plL : List (Nat × List (Nat × List Stage)) := [
  (5, [(18, [⟨[0, 1, 2, 3, 4, 5, 6, 7, 8, 9, 10, 11], [], [], none⟩])]),
  (10, [(7, [⟨[0, 1, 4, 5, 10], [], [], some 2⟩, ⟨[], [0, 1, 4, 5, 10], [], some 3⟩, ⟨[6], [0, 1, 4, 5, 10], [6], some 7⟩, ⟨[8], [0, 1, 4, 5, 10], [6], some 9⟩, ⟨[], [0, 1, 4, 5, 8, 10], [6], some 11⟩, ⟨[12, 13, 14], [0, 1, 4, 5, 8, 10], [6, 12], some 15⟩, ⟨[16], [0, 1, 4, 5, 8, 10, 13, 14], [6, 12], some 17⟩, ⟨[], [0, 1, 4, 5, 8, 10, 13, 14, 16], [6, 12], some 18⟩, ⟨[19, 20, 21, 22, 23, 24], [0, 1, 4, 5, 8, 10, 13, 14, 16], [], some 25⟩, ⟨[26], [], [], some 27⟩, ⟨[], [], [], none⟩])]),
  (47, [(3, [⟨[0, 2, 3, 4, 5], [], [], some 1⟩, ⟨[], [2, 3, 4, 5], [], some 6⟩, ⟨[7], [], [], none⟩])]),
  (62, [(2, [⟨[0, 1, 2, 3, 4, 5], [], [], some 6⟩, ⟨[7], [0, 1, 2, 3], [], some 8⟩, ⟨[], [], [], none⟩])]),
  (63, [(7, [⟨[0, 1, 2], [], [], some 3⟩, ⟨[], [0], [], some 4⟩, ⟨[], [], [], some 5⟩, ⟨[6], [], [], none⟩]), (8, [⟨[0, 1, 2, 3, 4, 5, 6], [], [], some 7⟩, ⟨[], [], [], some 8⟩, ⟨[], [], [], none⟩])]),
  (72, [(1, [⟨[0, 1, 2, 3, 4, 5, 6, 7, 8, 10], [], [10], some 9⟩, ⟨[], [], [], some 11⟩, ⟨[], [], [], none⟩]), (2, [⟨[0, 1, 2, 3, 4, 5, 6, 7, 8], [], [], none⟩]), (3, [⟨[0, 1, 2, 3, 4, 5, 6, 7], [], [], some 8⟩, ⟨[9, 10], [5], [], some 11⟩, ⟨[], [], [], none⟩])]),
  (74, [(5, [⟨[0, 1, 2, 3, 4, 5, 10], [], [10], some 6⟩, ⟨[7, 8, 9], [], [], some 11⟩, ⟨[12], [9], [], none⟩]), (7, [⟨[0, 1, 2, 3, 4, 5, 6, 7, 8], [], [], some 9⟩, ⟨[], [], [], some 10⟩, ⟨[], [], [], none⟩])]),
  (81, [(3, [⟨[0, 1, 2, 3, 4, 5, 6, 7, 8], [], [], some 9⟩, ⟨[], [0, 1, 2], [], some 10⟩, ⟨[], [], [], none⟩])]),
  (84, [(3, [⟨[0, 1, 2, 3, 4, 5, 6, 7, 8, 9, 10, 15], [], [15], some 11⟩, ⟨[12, 13, 14], [], [], some 16⟩, ⟨[17], [14], [], none⟩])])]

def env (P : Program) : Env := envOf P tyL fnL plL xtL

theorem tys : tysOk Try.prog tyL := by unfold tysOk; kernel_rfl
theorem mixed : Try.prog.follows .mixedOrders = true := by kernel_rfl
theorem fns : (fnsOf Try.prog fnL).all (fnOk (env Try.prog)) = true := by kernel_rfl
theorem own : ownKnob Try.prog.godebug = none := by kernel_rfl

theorem xts : ∀ g, (g, 1) ∈ xtL → ∀ a b w, (callFunc g #[.string a, .string b]).run Try.prog w = .ok (.value (.int .i64 (Extern.BytealgCompare.cmp a b))) w := by
  intro g hg
  simp [xtL] at hg

theorem xts3 : ∀ g, (g, 3) ∈ xtL → ∀ s c w, (callFunc g #[.string s, .int .u8 c]).run Try.prog w = .ok (.value (.int .i64 (idxB s c))) w := by
  intro g hg
  simp [xtL] at hg


theorem ok : EnvOk (env Try.prog) := env_ok tys mixed fns xts xts3 (fun g hg => by simp [xtL] at hg)

theorem here : (tget (env Try.prog).ff 5).isSome = true := by kernel_rfl

set_option maxRecDepth 100000 in
theorem runs : callK (env Try.prog) 1000000 1000 5 [] ⟨.nil, 0⟩ kTrue = True := by kernel_rfl

theorem walk (w : World) : Calls Try.prog 5 #[] w fun e w' => e = .returned (.bool true) ∧ Below w.heap.size w w' := by
  obtain ⟨fn, hfn⟩ := Option.isSome_iff_exists.1 here
  exact law_fast ok hfn (by unfold unkU; omega) runs w

set_option maxRecDepth 100000 in
theorem lifted (os : Os) (started : os.Started) (H : Type) (enc : TypeId × Value → H) :
    ReturnsInHanded {} Try.checked os 5 .any (Rows.llFormsSpec.pre6 enc Try.prog Try.f5 Rows.llFormsRow.domain false) (Rows.llFormsSpec.post enc Try.prog Try.f5 false true false false) := by
  refine returnsInHanded_of_change (C := Try.checked) own started (by kernel_rfl) Try.func5
    (ChangeSpec.witness6 (enc := enc) (C := Try.checked) false ⟨#[], #[], []⟩ 8 (by kernel_rfl) (by kernel_rfl) (by kernel_rfl) (by kernel_rfl)) ?_
  intro W base args ds gs before hval0 hW hcnd _
  have hW' := hW
  obtain ⟨p, q, hA0, hV, rfl, hfz, hnd⟩ := hW
  have hA : DataW.TrodAll enc Try.prog W 0 (fun _ => true) true Try.f5.params.toList args.toList ds p := hA0
  rw [Try.params5] at hA
  obtain ⟨rfl, rfl, rfl⟩ := trodAll_none hA
  obtain ⟨rfl, rfl⟩ := trodVars_none hV
  clear hA0 hval0
  simp only [List.append_nil] at hW'
  refine (walk W).mono fun e W' ⟨he, bel⟩ => ?_
  subst he
  exact ⟨_, rfl, _, _, _, [], [], [], hW', trodAll_mk1 (shut_bool Try.underlying4 _), trodAll_mk0, rfl, bel.frame _, fun h => by cases h⟩

theorem over : Rows.llFormsRow.holds Try.pinned (OpenSpec.ofChange Rows.llFormsSpec) :=
  OpenClaim.holds_of_wide 5 Try.f5 rfl rfl rfl rfl rfl rfl rfl ⟨rfl, rfl, rfl, rfl, rfl⟩ rfl rfl rfl rfl rfl (by kernel_rfl) Try.func5 (by kernel_rfl)
    (of_decide_eq_true (by kernel_rfl)) (by unfold Func.isWrapper; first | (rw [if_pos (by decide +kernel)]; kernel_rfl) | (rw [if_neg (by decide +kernel)]; exact ⟨rfl, rfl⟩))
    (fun os started H enc _ => lifted os started H enc)
end Forms

theorem LlForms_holds : Rows.LlFormsSaid := Forms.over
#print axioms LlForms_holds
end Go.Proofs.Ytibkijpnkmccpaa
