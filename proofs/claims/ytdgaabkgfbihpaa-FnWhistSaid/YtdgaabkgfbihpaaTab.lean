import Derived.Test.YtdgaabkgfbihpaaVLCall
import Derived.Test.YtdgaabkgfbihpaaProg
/- A part of the proof: Tab. No conditions of its own. -/
namespace Go.Proofs.Ytdgaabkgfbihpaa
open Go.VL
def tbl : List (Nat × TI) := [
  (1, ⟨.func, 1, 8, [.nilFunc]⟩),
  (2, ⟨.int .i64, 1, 8, [.int .i64 0]⟩),
  (3, ⟨.int .i64, 1, 8, [.int .i64 0]⟩),
  (4, ⟨.bool, 1, 1, [.bool false]⟩),
  (5, ⟨.int .u8, 1, 1, [.int .u8 0]⟩),
  (9, ⟨.string, 1, 16, [.string ByteArray.empty]⟩),
  (12, ⟨.int .u64, 1, 8, [.int .u64 0]⟩),
  (21, ⟨.int .i32, 1, 4, [.int .i32 0]⟩),
  (22, ⟨.slice 5, 1, 24, [.slice none 0 0]⟩),
  (23, ⟨.func, 1, 8, [.nilFunc]⟩),
  (24, ⟨.slice 48, 1, 24, [.slice none 0 0]⟩),
  (25, ⟨.struct [(0, 2), (1, 24)], 2, 32, [.int .i64 0, .slice none 0 0]⟩),
  (26, ⟨.struct [(0, 2), (1, 24)], 2, 32, [.int .i64 0, .slice none 0 0]⟩),
  (27, ⟨.slice 42, 1, 24, [.slice none 0 0]⟩),
  (29, ⟨.func, 1, 8, [.nilFunc]⟩),
  (31, ⟨.func, 1, 8, [.nilFunc]⟩),
  (32, ⟨.func, 1, 8, [.nilFunc]⟩),
  (34, ⟨.func, 1, 8, [.nilFunc]⟩),
  (35, ⟨.func, 1, 8, [.nilFunc]⟩),
  (36, ⟨.func, 1, 8, [.nilFunc]⟩),
  (38, ⟨.func, 1, 8, [.nilFunc]⟩),
  (40, ⟨.func, 1, 8, [.nilFunc]⟩),
  (41, ⟨.func, 1, 8, [.nilFunc]⟩),
  (42, ⟨.slice 2, 1, 24, [.slice none 0 0]⟩),
  (44, ⟨.func, 1, 8, [.nilFunc]⟩),
  (45, ⟨.func, 1, 8, [.nilFunc]⟩),
  (46, ⟨.func, 1, 8, [.nilFunc]⟩),
  (47, ⟨.arr 14 2, 14, 112, [.int .i64 0, .int .i64 0, .int .i64 0, .int .i64 0, .int .i64 0, .int .i64 0, .int .i64 0, .int .i64 0, .int .i64 0, .int .i64 0, .int .i64 0, .int .i64 0, .int .i64 0, .int .i64 0]⟩),
  (48, ⟨.arr 14 2, 14, 112, [.int .i64 0, .int .i64 0, .int .i64 0, .int .i64 0, .int .i64 0, .int .i64 0, .int .i64 0, .int .i64 0, .int .i64 0, .int .i64 0, .int .i64 0, .int .i64 0, .int .i64 0, .int .i64 0]⟩),
  (50, ⟨.func, 1, 8, [.nilFunc]⟩),
  (51, ⟨.func, 1, 8, [.nilFunc]⟩),
  (52, ⟨.func, 1, 8, [.nilFunc]⟩),
  (53, ⟨.func, 1, 8, [.nilFunc]⟩),
  (54, ⟨.func, 1, 8, [.nilFunc]⟩),
  (55, ⟨.func, 1, 8, [.nilFunc]⟩),
  (56, ⟨.func, 1, 8, [.nilFunc]⟩),
  (57, ⟨.struct [(0, 2), (1, 27)], 2, 32, [.int .i64 0, .slice none 0 0]⟩),
  (58, ⟨.struct [(0, 2), (1, 27)], 2, 32, [.int .i64 0, .slice none 0 0]⟩),
  (59, ⟨.func, 1, 8, [.nilFunc]⟩),
  (60, ⟨.func, 1, 8, [.nilFunc]⟩),
  (62, ⟨.func, 1, 8, [.nilFunc]⟩),
  (64, ⟨.func, 1, 8, [.nilFunc]⟩),
  (66, ⟨.func, 1, 8, [.nilFunc]⟩),
  (67, ⟨.func, 1, 8, [.nilFunc]⟩),
  (69, ⟨.func, 1, 8, [.nilFunc]⟩),
  (70, ⟨.func, 1, 8, [.nilFunc]⟩),
  (71, ⟨.func, 1, 8, [.nilFunc]⟩),
  (72, ⟨.func, 1, 8, [.nilFunc]⟩),
  (73, ⟨.slice 47, 1, 24, [.slice none 0 0]⟩),
  (74, ⟨.struct [(0, 2), (1, 73)], 2, 32, [.int .i64 0, .slice none 0 0]⟩),
  (75, ⟨.struct [(0, 2), (1, 73)], 2, 32, [.int .i64 0, .slice none 0 0]⟩),
  (76, ⟨.func, 1, 8, [.nilFunc]⟩),
  (77, ⟨.func, 1, 8, [.nilFunc]⟩),
  (78, ⟨.func, 1, 8, [.nilFunc]⟩),
  (79, ⟨.func, 1, 8, [.nilFunc]⟩),
  (80, ⟨.func, 1, 8, [.nilFunc]⟩),
  (82, ⟨.func, 1, 8, [.nilFunc]⟩),
  (83, ⟨.slice 256, 1, 24, [.slice none 0 0]⟩),
  (84, ⟨.struct [(0, 2), (1, 2), (2, 83)], 3, 40, [.int .i64 0, .int .i64 0, .slice none 0 0]⟩),
  (85, ⟨.struct [(0, 2), (1, 2), (2, 83)], 3, 40, [.int .i64 0, .int .i64 0, .slice none 0 0]⟩),
  (86, ⟨.func, 1, 8, [.nilFunc]⟩),
  (87, ⟨.func, 1, 8, [.nilFunc]⟩),
  (88, ⟨.slice 187, 1, 24, [.slice none 0 0]⟩),
  (89, ⟨.struct [(0, 2), (1, 2), (2, 88)], 3, 40, [.int .i64 0, .int .i64 0, .slice none 0 0]⟩),
  (90, ⟨.struct [(0, 2), (1, 2), (2, 88)], 3, 40, [.int .i64 0, .int .i64 0, .slice none 0 0]⟩),
  (91, ⟨.func, 1, 8, [.nilFunc]⟩),
  (92, ⟨.func, 1, 8, [.nilFunc]⟩),
  (93, ⟨.func, 1, 8, [.nilFunc]⟩),
  (95, ⟨.func, 1, 8, [.nilFunc]⟩),
  (96, ⟨.func, 1, 8, [.nilFunc]⟩),
  (97, ⟨.func, 1, 8, [.nilFunc]⟩),
  (98, ⟨.func, 1, 8, [.nilFunc]⟩),
  (99, ⟨.func, 1, 8, [.nilFunc]⟩),
  (100, ⟨.func, 1, 8, [.nilFunc]⟩),
  (101, ⟨.func, 1, 8, [.nilFunc]⟩),
  (102, ⟨.func, 1, 8, [.nilFunc]⟩),
  (103, ⟨.func, 1, 8, [.nilFunc]⟩),
  (104, ⟨.func, 1, 8, [.nilFunc]⟩),
  (105, ⟨.func, 1, 8, [.nilFunc]⟩),
  (106, ⟨.func, 1, 8, [.nilFunc]⟩),
  (108, ⟨.func, 1, 8, [.nilFunc]⟩),
  (109, ⟨.func, 1, 8, [.nilFunc]⟩),
  (110, ⟨.func, 1, 8, [.nilFunc]⟩),
  (111, ⟨.func, 1, 8, [.nilFunc]⟩),
  (112, ⟨.func, 1, 8, [.nilFunc]⟩),
  (113, ⟨.func, 1, 8, [.nilFunc]⟩),
  (114, ⟨.func, 1, 8, [.nilFunc]⟩),
  (115, ⟨.func, 1, 8, [.nilFunc]⟩),
  (116, ⟨.func, 1, 8, [.nilFunc]⟩),
  (117, ⟨.func, 1, 8, [.nilFunc]⟩),
  (118, ⟨.func, 1, 8, [.nilFunc]⟩),
  (119, ⟨.func, 1, 8, [.nilFunc]⟩),
  (120, ⟨.func, 1, 8, [.nilFunc]⟩),
  (121, ⟨.ptr 228, 1, 8, [.pointer none]⟩),
  (122, ⟨.func, 1, 8, [.nilFunc]⟩),
  (123, ⟨.func, 1, 8, [.nilFunc]⟩),
  (124, ⟨.func, 1, 8, [.nilFunc]⟩),
  (125, ⟨.func, 1, 8, [.nilFunc]⟩),
  (126, ⟨.func, 1, 8, [.nilFunc]⟩),
  (127, ⟨.func, 1, 8, [.nilFunc]⟩),
  (128, ⟨.func, 1, 8, [.nilFunc]⟩),
  (129, ⟨.func, 1, 8, [.nilFunc]⟩),
  (130, ⟨.func, 1, 8, [.nilFunc]⟩),
  (131, ⟨.func, 1, 8, [.nilFunc]⟩),
  (132, ⟨.func, 1, 8, [.nilFunc]⟩),
  (133, ⟨.func, 1, 8, [.nilFunc]⟩),
  (134, ⟨.func, 1, 8, [.nilFunc]⟩),
  (135, ⟨.func, 1, 8, [.nilFunc]⟩),
  (137, ⟨.func, 1, 8, [.nilFunc]⟩),
  (138, ⟨.func, 1, 8, [.nilFunc]⟩),
  (139, ⟨.func, 1, 8, [.nilFunc]⟩),
  (140, ⟨.func, 1, 8, [.nilFunc]⟩),
  (141, ⟨.func, 1, 8, [.nilFunc]⟩),
  (142, ⟨.func, 1, 8, [.nilFunc]⟩),
  (143, ⟨.func, 1, 8, [.nilFunc]⟩),
  (144, ⟨.func, 1, 8, [.nilFunc]⟩),
  (145, ⟨.func, 1, 8, [.nilFunc]⟩),
  (146, ⟨.func, 1, 8, [.nilFunc]⟩),
  (147, ⟨.func, 1, 8, [.nilFunc]⟩),
  (148, ⟨.func, 1, 8, [.nilFunc]⟩),
  (149, ⟨.func, 1, 8, [.nilFunc]⟩),
  (150, ⟨.func, 1, 8, [.nilFunc]⟩),
  (151, ⟨.slice 149, 1, 24, [.slice none 0 0]⟩),
  (152, ⟨.func, 1, 8, [.nilFunc]⟩),
  (153, ⟨.func, 1, 8, [.nilFunc]⟩),
  (154, ⟨.func, 1, 8, [.nilFunc]⟩),
  (155, ⟨.func, 1, 8, [.nilFunc]⟩),
  (156, ⟨.func, 1, 8, [.nilFunc]⟩),
  (157, ⟨.func, 1, 8, [.nilFunc]⟩),
  (158, ⟨.func, 1, 8, [.nilFunc]⟩),
  (159, ⟨.func, 1, 8, [.nilFunc]⟩),
  (160, ⟨.func, 1, 8, [.nilFunc]⟩),
  (161, ⟨.func, 1, 8, [.nilFunc]⟩),
  (163, ⟨.func, 1, 8, [.nilFunc]⟩),
  (164, ⟨.func, 1, 8, [.nilFunc]⟩),
  (165, ⟨.func, 1, 8, [.nilFunc]⟩),
  (166, ⟨.func, 1, 8, [.nilFunc]⟩),
  (168, ⟨.func, 1, 8, [.nilFunc]⟩),
  (169, ⟨.func, 1, 8, [.nilFunc]⟩),
  (170, ⟨.func, 1, 8, [.nilFunc]⟩),
  (171, ⟨.func, 1, 8, [.nilFunc]⟩),
  (172, ⟨.func, 1, 8, [.nilFunc]⟩),
  (173, ⟨.func, 1, 8, [.nilFunc]⟩),
  (174, ⟨.func, 1, 8, [.nilFunc]⟩),
  (175, ⟨.func, 1, 8, [.nilFunc]⟩),
  (176, ⟨.func, 1, 8, [.nilFunc]⟩),
  (177, ⟨.struct [(0, 42), (1, 2)], 2, 32, [.slice none 0 0, .int .i64 0]⟩),
  (178, ⟨.struct [(0, 42), (1, 2)], 2, 32, [.slice none 0 0, .int .i64 0]⟩),
  (179, ⟨.slice 178, 1, 24, [.slice none 0 0]⟩),
  (181, ⟨.func, 1, 8, [.nilFunc]⟩),
  (182, ⟨.func, 1, 8, [.nilFunc]⟩),
  (183, ⟨.func, 1, 8, [.nilFunc]⟩),
  (184, ⟨.func, 1, 8, [.nilFunc]⟩),
  (185, ⟨.slice 4, 1, 24, [.slice none 0 0]⟩),
  (186, ⟨.func, 1, 8, [.nilFunc]⟩),
  (187, ⟨.slice 208, 1, 24, [.slice none 0 0]⟩),
  (188, ⟨.func, 1, 8, [.nilFunc]⟩),
  (189, ⟨.func, 1, 8, [.nilFunc]⟩),
  (190, ⟨.func, 1, 8, [.nilFunc]⟩),
  (191, ⟨.func, 1, 8, [.nilFunc]⟩),
  (192, ⟨.func, 1, 8, [.nilFunc]⟩),
  (193, ⟨.func, 1, 8, [.nilFunc]⟩),
  (194, ⟨.struct [(0, 2)], 1, 8, [.int .i64 0]⟩),
  (195, ⟨.struct [(0, 2)], 1, 8, [.int .i64 0]⟩),
  (196, ⟨.func, 1, 8, [.nilFunc]⟩),
  (197, ⟨.func, 1, 8, [.nilFunc]⟩),
  (198, ⟨.func, 1, 8, [.nilFunc]⟩),
  (199, ⟨.func, 1, 8, [.nilFunc]⟩),
  (200, ⟨.slice 202, 1, 24, [.slice none 0 0]⟩),
  (201, ⟨.func, 1, 8, [.nilFunc]⟩),
  (202, ⟨.slice 204, 1, 24, [.slice none 0 0]⟩),
  (203, ⟨.struct [(0, 2), (1, 2), (2, 2)], 3, 24, [.int .i64 0, .int .i64 0, .int .i64 0]⟩),
  (204, ⟨.struct [(0, 2), (1, 2), (2, 2)], 3, 24, [.int .i64 0, .int .i64 0, .int .i64 0]⟩),
  (205, ⟨.func, 1, 8, [.nilFunc]⟩),
  (206, ⟨.func, 1, 8, [.nilFunc]⟩),
  (207, ⟨.arr 3 2, 3, 24, [.int .i64 0, .int .i64 0, .int .i64 0]⟩),
  (208, ⟨.arr 3 2, 3, 24, [.int .i64 0, .int .i64 0, .int .i64 0]⟩),
  (209, ⟨.func, 1, 8, [.nilFunc]⟩),
  (210, ⟨.func, 1, 8, [.nilFunc]⟩),
  (211, ⟨.func, 1, 8, [.nilFunc]⟩),
  (212, ⟨.func, 1, 8, [.nilFunc]⟩),
  (213, ⟨.func, 1, 8, [.nilFunc]⟩),
  (214, ⟨.func, 1, 8, [.nilFunc]⟩),
  (215, ⟨.func, 1, 8, [.nilFunc]⟩),
  (216, ⟨.func, 1, 8, [.nilFunc]⟩),
  (217, ⟨.func, 1, 8, [.nilFunc]⟩),
  (218, ⟨.func, 1, 8, [.nilFunc]⟩),
  (219, ⟨.func, 1, 8, [.nilFunc]⟩),
  (220, ⟨.func, 1, 8, [.nilFunc]⟩),
  (221, ⟨.func, 1, 8, [.nilFunc]⟩),
  (222, ⟨.func, 1, 8, [.nilFunc]⟩),
  (223, ⟨.func, 1, 8, [.nilFunc]⟩),
  (225, ⟨.func, 1, 8, [.nilFunc]⟩),
  (226, ⟨.int .u64, 1, 8, [.int .u64 0]⟩),
  (227, ⟨.struct [(0, 22), (1, 3), (2, 226)], 3, 40, [.slice none 0 0, .int .i64 0, .int .u64 0]⟩),
  (228, ⟨.struct [(0, 22), (1, 3), (2, 226)], 3, 40, [.slice none 0 0, .int .i64 0, .int .u64 0]⟩),
  (229, ⟨.func, 1, 8, [.nilFunc]⟩),
  (230, ⟨.func, 1, 8, [.nilFunc]⟩),
  (231, ⟨.func, 1, 8, [.nilFunc]⟩),
  (232, ⟨.func, 1, 8, [.nilFunc]⟩),
  (233, ⟨.int .u64, 1, 8, [.int .u64 0]⟩),
  (234, ⟨.func, 1, 8, [.nilFunc]⟩),
  (235, ⟨.func, 1, 8, [.nilFunc]⟩),
  (236, ⟨.func, 1, 8, [.nilFunc]⟩),
  (237, ⟨.func, 1, 8, [.nilFunc]⟩),
  (238, ⟨.func, 1, 8, [.nilFunc]⟩),
  (239, ⟨.func, 1, 8, [.nilFunc]⟩),
  (240, ⟨.arr 4 2, 4, 32, [.int .i64 0, .int .i64 0, .int .i64 0, .int .i64 0]⟩),
  (241, ⟨.arr 4 2, 4, 32, [.int .i64 0, .int .i64 0, .int .i64 0, .int .i64 0]⟩),
  (242, ⟨.slice 3, 1, 24, [.slice none 0 0]⟩),
  (243, ⟨.func, 1, 8, [.nilFunc]⟩),
  (244, ⟨.slice 297, 1, 24, [.slice none 0 0]⟩),
  (245, ⟨.slice 185, 1, 24, [.slice none 0 0]⟩),
  (246, ⟨.func, 1, 8, [.nilFunc]⟩),
  (247, ⟨.func, 1, 8, [.nilFunc]⟩),
  (248, ⟨.func, 1, 8, [.nilFunc]⟩),
  (249, ⟨.func, 1, 8, [.nilFunc]⟩),
  (250, ⟨.func, 1, 8, [.nilFunc]⟩),
  (251, ⟨.func, 1, 8, [.nilFunc]⟩),
  (252, ⟨.func, 1, 8, [.nilFunc]⟩),
  (254, ⟨.func, 1, 8, [.nilFunc]⟩),
  (255, ⟨.func, 1, 8, [.nilFunc]⟩),
  (256, ⟨.slice 207, 1, 24, [.slice none 0 0]⟩),
  (257, ⟨.func, 1, 8, [.nilFunc]⟩),
  (258, ⟨.struct [], 0, 0, []⟩),
  (259, ⟨.struct [], 0, 0, []⟩),
  (260, ⟨.struct [], 0, 0, []⟩),
  (261, ⟨.struct [], 0, 0, []⟩),
  (262, ⟨.struct [(0, 260), (0, 261), (0, 226)], 1, 8, [.int .u64 0]⟩),
  (263, ⟨.struct [(0, 260), (0, 261), (0, 226)], 1, 8, [.int .u64 0]⟩),
  (264, ⟨.int .u32, 1, 4, [.int .u32 0]⟩),
  (265, ⟨.struct [(0, 259), (0, 263), (1, 264)], 2, 16, [.int .u64 0, .int .u32 0]⟩),
  (266, ⟨.struct [(0, 259), (0, 263), (1, 264)], 2, 16, [.int .u64 0, .int .u32 0]⟩),
  (267, ⟨.func, 1, 8, [.nilFunc]⟩),
  (268, ⟨.arr 14 4, 14, 14, [.bool false, .bool false, .bool false, .bool false, .bool false, .bool false, .bool false, .bool false, .bool false, .bool false, .bool false, .bool false, .bool false, .bool false]⟩),
  (269, ⟨.func, 1, 8, [.nilFunc]⟩),
  (270, ⟨.func, 1, 8, [.nilFunc]⟩),
  (271, ⟨.func, 1, 8, [.nilFunc]⟩),
  (275, ⟨.func, 1, 8, [.nilFunc]⟩),
  (276, ⟨.func, 1, 8, [.nilFunc]⟩),
  (277, ⟨.func, 1, 8, [.nilFunc]⟩),
  (278, ⟨.func, 1, 8, [.nilFunc]⟩),
  (279, ⟨.func, 1, 8, [.nilFunc]⟩),
  (280, ⟨.func, 1, 8, [.nilFunc]⟩),
  (282, ⟨.func, 1, 8, [.nilFunc]⟩),
  (283, ⟨.func, 1, 8, [.nilFunc]⟩),
  (284, ⟨.func, 1, 8, [.nilFunc]⟩),
  (285, ⟨.func, 1, 8, [.nilFunc]⟩),
  (286, ⟨.func, 1, 8, [.nilFunc]⟩),
  (287, ⟨.func, 1, 8, [.nilFunc]⟩),
  (288, ⟨.func, 1, 8, [.nilFunc]⟩),
  (289, ⟨.func, 1, 8, [.nilFunc]⟩),
  (290, ⟨.func, 1, 8, [.nilFunc]⟩),
  (291, ⟨.func, 1, 8, [.nilFunc]⟩),
  (292, ⟨.func, 1, 8, [.nilFunc]⟩),
  (293, ⟨.func, 1, 8, [.nilFunc]⟩),
  (294, ⟨.func, 1, 8, [.nilFunc]⟩),
  (295, ⟨.arr 2 2, 2, 16, [.int .i64 0, .int .i64 0]⟩),
  (296, ⟨.arr 2 295, 4, 32, [.int .i64 0, .int .i64 0, .int .i64 0, .int .i64 0]⟩),
  (297, ⟨.func, 1, 8, [.nilFunc]⟩),
  (298, ⟨.func, 1, 8, [.nilFunc]⟩),
  (299, ⟨.func, 1, 8, [.nilFunc]⟩),
  (300, ⟨.func, 1, 8, [.nilFunc]⟩),
  (301, ⟨.ptr 266, 1, 8, [.pointer none]⟩),
  (302, ⟨.func, 1, 8, [.nilFunc]⟩),
  (305, ⟨.func, 1, 8, [.nilFunc]⟩),
  (306, ⟨.func, 1, 8, [.nilFunc]⟩),
  (307, ⟨.func, 1, 8, [.nilFunc]⟩),
  (308, ⟨.ptr 264, 1, 8, [.pointer none]⟩),
  (309, ⟨.func, 1, 8, [.nilFunc]⟩),
  (310, ⟨.func, 1, 8, [.nilFunc]⟩),
  (311, ⟨.func, 1, 8, [.nilFunc]⟩),
  (312, ⟨.func, 1, 8, [.nilFunc]⟩),
  (313, ⟨.func, 1, 8, [.nilFunc]⟩),
  (314, ⟨.func, 1, 8, [.nilFunc]⟩),
  (315, ⟨.func, 1, 8, [.nilFunc]⟩),
  (316, ⟨.func, 1, 8, [.nilFunc]⟩),
  (317, ⟨.func, 1, 8, [.nilFunc]⟩),
  (318, ⟨.func, 1, 8, [.nilFunc]⟩),
  (319, ⟨.int .i64, 1, 8, [.int .i64 0]⟩),
  (321, ⟨.func, 1, 8, [.nilFunc]⟩),
  (322, ⟨.func, 1, 8, [.nilFunc]⟩),
  (323, ⟨.func, 1, 8, [.nilFunc]⟩),
  (325, ⟨.func, 1, 8, [.nilFunc]⟩),
  (326, ⟨.func, 1, 8, [.nilFunc]⟩),
  (327, ⟨.func, 1, 8, [.nilFunc]⟩),
  (328, ⟨.arr 16 2, 16, 128, [.int .i64 0, .int .i64 0, .int .i64 0, .int .i64 0, .int .i64 0, .int .i64 0, .int .i64 0, .int .i64 0, .int .i64 0, .int .i64 0, .int .i64 0, .int .i64 0, .int .i64 0, .int .i64 0, .int .i64 0, .int .i64 0]⟩),
  (329, ⟨.func, 1, 8, [.nilFunc]⟩),
  (330, ⟨.ptr 263, 1, 8, [.pointer none]⟩),
  (331, ⟨.func, 1, 8, [.nilFunc]⟩),
  (332, ⟨.ptr 226, 1, 8, [.pointer none]⟩),
  (333, ⟨.func, 1, 8, [.nilFunc]⟩),
  (334, ⟨.func, 1, 8, [.nilFunc]⟩),
  (335, ⟨.func, 1, 8, [.nilFunc]⟩),
  (336, ⟨.func, 1, 8, [.nilFunc]⟩),
  (337, ⟨.func, 1, 8, [.nilFunc]⟩),
  (338, ⟨.func, 1, 8, [.nilFunc]⟩),
  (339, ⟨.func, 1, 8, [.nilFunc]⟩),
  (340, ⟨.func, 1, 8, [.nilFunc]⟩),
  (341, ⟨.int .u64, 1, 8, [.int .u64 0]⟩),
  (342, ⟨.func, 1, 8, [.nilFunc]⟩),
  (343, ⟨.func, 1, 8, [.nilFunc]⟩),
  (344, ⟨.ptr 3, 1, 8, [.pointer none]⟩),
  (345, ⟨.func, 1, 8, [.nilFunc]⟩),
  (346, ⟨.func, 1, 8, [.nilFunc]⟩),
  (347, ⟨.func, 1, 8, [.nilFunc]⟩),
  (348, ⟨.ptr 341, 1, 8, [.pointer none]⟩),
  (350, ⟨.func, 1, 8, [.nilFunc]⟩),
  (351, ⟨.func, 1, 8, [.nilFunc]⟩),
  (352, ⟨.func, 1, 8, [.nilFunc]⟩),
  (358, ⟨.func, 1, 8, [.nilFunc]⟩),
  (361, ⟨.func, 1, 8, [.nilFunc]⟩),
  (362, ⟨.ptr 5, 1, 8, [.pointer none]⟩)]
def T : Nat → Option TI := tblOf tbl
theorem tyOk : TyOk Try.prog T := tyOk_of_B (by kernel_rfl)
/-- The head of the translation, as numbers. -/
def initCodes : List Nat := [104, 97, 114, 110, 101, 115, 115, 32, 52, 51, 51, 99, 50, 101, 49, 50, 51, 57, 49, 54, 97, 53, 55, 53, 101, 98, 97, 101, 97, 51, 52, 97, 100, 99, 55, 98, 51, 53, 56, 56, 98, 55, 52, 49, 49, 54, 98, 98, 48, 51, 57, 102, 52, 54, 51, 102, 56, 50, 54, 100, 98, 101, 50, 49, 98, 53, 49, 99, 100, 100, 56, 55, 32, 99, 117, 116, 32, 97, 116, 32, 108, 111, 111, 112, 46, 101, 120, 97, 109, 112, 108, 101, 47, 103, 48, 49, 51, 55, 57, 47, 108, 97, 119, 115, 46, 70, 110, 86, 101, 110, 117, 101, 115, 32, 108, 111, 111, 112, 46, 101, 120, 97, 109, 112, 108, 101, 47, 103, 48, 49, 51, 55, 57, 47, 108, 97, 119, 115, 46, 70, 110, 67, 111, 109, 112, 111, 110, 101, 110, 116, 115, 32, 108, 111, 111, 112, 46, 101, 120, 97, 109, 112, 108, 101, 47, 103, 48, 49, 51, 55, 57, 47, 108, 97, 119, 115, 46, 70, 110, 87, 104, 105, 115, 116, 32, 108, 111, 111, 112, 46, 101, 120, 97, 109, 112, 108, 101, 47, 103, 48, 49, 51, 55, 57, 47, 108, 97, 119, 115, 46, 70, 110, 69, 120, 97, 99, 116, 67, 111, 109, 112, 108, 101, 116, 101, 83, 99, 104, 101, 100, 117, 108, 101, 32, 108, 111, 111, 112, 46, 101, 120, 97, 109, 112, 108, 101, 47, 103, 48, 49, 51, 55, 57, 47, 108, 97, 119, 115, 46, 70, 110, 69, 120, 97, 99, 116, 70, 101, 119, 101, 115, 116, 66, 114, 101, 97, 107, 115, 32, 108, 111, 111, 112, 46, 101, 120, 97, 109, 112, 108, 101, 47, 103, 48, 49, 51, 55, 57, 47, 108, 97, 119, 115, 46, 70, 110, 69, 120, 97, 99, 116, 73, 115, 77, 111, 118, 101, 109, 101, 110, 116, 32, 108, 111, 111, 112, 46, 101, 120, 97, 109, 112, 108, 101, 47, 103, 48, 49, 51, 55, 57, 47, 108, 97, 119, 115, 46, 70, 110, 69, 120, 97, 99, 116, 77, 105, 116, 99, 104, 101, 108, 108, 79, 102, 32, 108, 111, 111, 112, 46, 101, 120, 97, 109, 112, 108, 101, 47, 103, 48, 49, 51, 55, 57, 47, 108, 97, 119, 115, 46, 70, 110, 69, 120, 97, 99, 116, 66, 111, 97, 114, 100, 115, 79, 102, 32, 108, 111, 111, 112, 46, 101, 120, 97, 109, 112, 108, 101, 47, 103, 48, 49, 51, 55, 57, 47, 108, 97, 119, 115, 46, 70, 110, 69, 120, 97, 99, 116, 79, 112, 112, 111, 110, 101, 110, 116, 115, 65, 116, 32, 108, 111, 111, 112, 46, 101, 120, 97, 109, 112, 108, 101, 47, 103, 48, 49, 51, 55, 57, 47, 108, 97, 119, 115, 46, 70, 110, 69, 120, 97, 99, 116, 83, 105, 116, 79, 117, 116, 115, 32, 108, 111, 111, 112, 46, 101, 120, 97, 109, 112, 108, 101, 47, 103, 48, 49, 51, 55, 57, 47, 108, 97, 119, 115, 46, 70, 110, 69, 120, 97, 99, 116, 73, 115, 70, 97, 105, 114, 32, 108, 111, 111, 112, 46, 101, 120, 97, 109, 112, 108, 101, 47, 103, 48, 49, 51, 55, 57, 47, 108, 97, 119, 115, 46, 70, 110, 69, 120, 97, 99, 116, 73, 115, 67, 111, 109, 112, 108, 101, 116, 101, 32, 108, 111, 111, 112, 46, 101, 120, 97, 109, 112, 108, 101, 47, 103, 48, 49, 51, 55, 57, 47, 108, 97, 119, 115, 46, 70, 110, 69, 120, 97, 99, 116, 80, 108, 97, 121, 115, 79, 102, 32, 108, 111, 111, 112, 46, 101, 120, 97, 109, 112, 108, 101, 47, 103, 48, 49, 51, 55, 57, 47, 108, 97, 119, 115, 46, 70, 110, 69, 120, 97, 99, 116, 67, 111, 109, 112, 97, 114, 105, 115, 111, 110, 115, 79, 102, 32, 108, 111, 111, 112, 46, 101, 120, 97, 109, 112, 108, 101, 47, 103, 48, 49, 51, 55, 57, 47, 108, 97, 119, 115, 46, 70, 110, 69, 120, 97, 99, 116, 84, 97, 107, 101, 80, 97, 105, 114, 32, 108, 111, 111, 112, 46, 101, 120, 97, 109, 112, 108, 101, 47, 103, 48, 49, 51, 55, 57, 47, 108, 97, 119, 115, 46, 70, 110, 69, 120, 97, 99, 116, 65, 114, 114, 111, 119, 83, 119, 105, 116, 99, 104, 32, 108, 111, 111, 112, 46, 101, 120, 97, 109, 112, 108, 101, 47, 103, 48, 49, 51, 55, 57, 47, 108, 97, 119, 115, 46, 70, 110, 69, 120, 97, 99, 116, 83, 99, 104, 101, 100, 117, 108, 101, 79, 102, 77, 111, 118, 101, 109, 101, 110, 116]
theorem initIs : Try.prog.initOrder = String.ofList (initCodes.map Char.ofNat) := by kernel_rfl
theorem initWords : Try.prog.initOrder.toList = initCodes.map Char.ofNat := by rw [initIs, String.toList_ofList]
theorem ent3 : Ent Try.prog 3 := ⟨_, Try.func3, by kernel_rfl, by kernel_rfl⟩
theorem ent4 : Ent Try.prog 4 := ⟨_, Try.func4, by kernel_rfl, by kernel_rfl⟩
theorem ent5 : Ent Try.prog 5 := ⟨_, Try.func5, by kernel_rfl, by kernel_rfl⟩
theorem ent6 : Ent Try.prog 6 := ⟨_, Try.func6, by kernel_rfl, by kernel_rfl⟩
theorem ent7 : Ent Try.prog 7 := ⟨_, Try.func7, by kernel_rfl, by kernel_rfl⟩
theorem ent8 : Ent Try.prog 8 := ⟨_, Try.func8, by kernel_rfl, by kernel_rfl⟩
theorem ent9 : Ent Try.prog 9 := ⟨_, Try.func9, by kernel_rfl, by kernel_rfl⟩
theorem ent10 : Ent Try.prog 10 := ⟨_, Try.func10, by kernel_rfl, by kernel_rfl⟩
theorem ent11 : Ent Try.prog 11 := ⟨_, Try.func11, by kernel_rfl, by kernel_rfl⟩
theorem ent12 : Ent Try.prog 12 := ⟨_, Try.func12, by kernel_rfl, by kernel_rfl⟩
theorem ent13 : Ent Try.prog 13 := ⟨_, Try.func13, by kernel_rfl, by kernel_rfl⟩
theorem ent14 : Ent Try.prog 14 := ⟨_, Try.func14, by kernel_rfl, by kernel_rfl⟩
theorem ent15 : Ent Try.prog 15 := ⟨_, Try.func15, by kernel_rfl, by kernel_rfl⟩
theorem ent16 : Ent Try.prog 16 := ⟨_, Try.func16, by kernel_rfl, by kernel_rfl⟩
theorem ent17 : Ent Try.prog 17 := ⟨_, Try.func17, by kernel_rfl, by kernel_rfl⟩
theorem ent18 : Ent Try.prog 18 := ⟨_, Try.func18, by kernel_rfl, by kernel_rfl⟩
theorem ent19 : Ent Try.prog 19 := ⟨_, Try.func19, by kernel_rfl, by kernel_rfl⟩
theorem ent20 : Ent Try.prog 20 := ⟨_, Try.func20, by kernel_rfl, by kernel_rfl⟩
theorem ent21 : Ent Try.prog 21 := ⟨_, Try.func21, by kernel_rfl, by kernel_rfl⟩
theorem ent22 : Ent Try.prog 22 := ⟨_, Try.func22, by kernel_rfl, by kernel_rfl⟩
theorem ent23 : Ent Try.prog 23 := ⟨_, Try.func23, by kernel_rfl, by kernel_rfl⟩
theorem ent24 : Ent Try.prog 24 := ⟨_, Try.func24, by kernel_rfl, by kernel_rfl⟩
theorem ent25 : Ent Try.prog 25 := ⟨_, Try.func25, by kernel_rfl, by kernel_rfl⟩
theorem ent26 : Ent Try.prog 26 := ⟨_, Try.func26, by kernel_rfl, by kernel_rfl⟩
theorem ent27 : Ent Try.prog 27 := ⟨_, Try.func27, by kernel_rfl, by kernel_rfl⟩
theorem ent28 : Ent Try.prog 28 := ⟨_, Try.func28, by kernel_rfl, by kernel_rfl⟩
theorem ent29 : Ent Try.prog 29 := ⟨_, Try.func29, by kernel_rfl, by kernel_rfl⟩
theorem ent30 : Ent Try.prog 30 := ⟨_, Try.func30, by kernel_rfl, by kernel_rfl⟩
theorem ent31 : Ent Try.prog 31 := ⟨_, Try.func31, by kernel_rfl, by kernel_rfl⟩
theorem ent32 : Ent Try.prog 32 := ⟨_, Try.func32, by kernel_rfl, by kernel_rfl⟩
theorem ent33 : Ent Try.prog 33 := ⟨_, Try.func33, by kernel_rfl, by kernel_rfl⟩
theorem ent34 : Ent Try.prog 34 := ⟨_, Try.func34, by kernel_rfl, by kernel_rfl⟩
theorem ent35 : Ent Try.prog 35 := ⟨_, Try.func35, by kernel_rfl, by kernel_rfl⟩
theorem ent36 : Ent Try.prog 36 := ⟨_, Try.func36, by kernel_rfl, by kernel_rfl⟩
theorem ent37 : Ent Try.prog 37 := ⟨_, Try.func37, by kernel_rfl, by kernel_rfl⟩
theorem ent38 : Ent Try.prog 38 := ⟨_, Try.func38, by kernel_rfl, by kernel_rfl⟩
theorem ent39 : Ent Try.prog 39 := ⟨_, Try.func39, by kernel_rfl, by kernel_rfl⟩
theorem ent40 : Ent Try.prog 40 := ⟨_, Try.func40, by kernel_rfl, by kernel_rfl⟩
theorem ent41 : Ent Try.prog 41 := ⟨_, Try.func41, by kernel_rfl, by kernel_rfl⟩
theorem ent42 : Ent Try.prog 42 := ⟨_, Try.func42, by kernel_rfl, by kernel_rfl⟩
theorem ent43 : Ent Try.prog 43 := ⟨_, Try.func43, by kernel_rfl, by kernel_rfl⟩
theorem ent44 : Ent Try.prog 44 := ⟨_, Try.func44, by kernel_rfl, by kernel_rfl⟩
theorem ent45 : Ent Try.prog 45 := ⟨_, Try.func45, by kernel_rfl, by kernel_rfl⟩
theorem ent46 : Ent Try.prog 46 := ⟨_, Try.func46, by kernel_rfl, by kernel_rfl⟩
theorem ent47 : Ent Try.prog 47 := ⟨_, Try.func47, by kernel_rfl, by kernel_rfl⟩
theorem ent48 : Ent Try.prog 48 := ⟨_, Try.func48, by kernel_rfl, by kernel_rfl⟩
theorem ent49 : Ent Try.prog 49 := ⟨_, Try.func49, by kernel_rfl, by kernel_rfl⟩
theorem ent50 : Ent Try.prog 50 := ⟨_, Try.func50, by kernel_rfl, by kernel_rfl⟩
theorem ent51 : Ent Try.prog 51 := ⟨_, Try.func51, by kernel_rfl, by kernel_rfl⟩
theorem ent52 : Ent Try.prog 52 := ⟨_, Try.func52, by kernel_rfl, by kernel_rfl⟩
theorem ent53 : Ent Try.prog 53 := ⟨_, Try.func53, by kernel_rfl, by kernel_rfl⟩
theorem ent54 : Ent Try.prog 54 := ⟨_, Try.func54, by kernel_rfl, by kernel_rfl⟩
theorem ent55 : Ent Try.prog 55 := ⟨_, Try.func55, by kernel_rfl, by kernel_rfl⟩
theorem ent56 : Ent Try.prog 56 := ⟨_, Try.func56, by kernel_rfl, by kernel_rfl⟩
theorem ent57 : Ent Try.prog 57 := ⟨_, Try.func57, by kernel_rfl, by kernel_rfl⟩
theorem ent58 : Ent Try.prog 58 := ⟨_, Try.func58, by kernel_rfl, by kernel_rfl⟩
theorem ent59 : Ent Try.prog 59 := ⟨_, Try.func59, by kernel_rfl, by kernel_rfl⟩
theorem ent60 : Ent Try.prog 60 := ⟨_, Try.func60, by kernel_rfl, by kernel_rfl⟩
theorem ent61 : Ent Try.prog 61 := ⟨_, Try.func61, by kernel_rfl, by kernel_rfl⟩
theorem ent62 : Ent Try.prog 62 := ⟨_, Try.func62, by kernel_rfl, by kernel_rfl⟩
theorem ent63 : Ent Try.prog 63 := ⟨_, Try.func63, by kernel_rfl, by kernel_rfl⟩
theorem ent64 : Ent Try.prog 64 := ⟨_, Try.func64, by kernel_rfl, by kernel_rfl⟩
theorem ent65 : Ent Try.prog 65 := ⟨_, Try.func65, by kernel_rfl, by kernel_rfl⟩
theorem ent66 : Ent Try.prog 66 := ⟨_, Try.func66, by kernel_rfl, by kernel_rfl⟩
theorem ent67 : Ent Try.prog 67 := ⟨_, Try.func67, by kernel_rfl, by kernel_rfl⟩
theorem ent68 : Ent Try.prog 68 := ⟨_, Try.func68, by kernel_rfl, by kernel_rfl⟩
theorem ent69 : Ent Try.prog 69 := ⟨_, Try.func69, by kernel_rfl, by kernel_rfl⟩
theorem ent70 : Ent Try.prog 70 := ⟨_, Try.func70, by kernel_rfl, by kernel_rfl⟩
theorem ent71 : Ent Try.prog 71 := ⟨_, Try.func71, by kernel_rfl, by kernel_rfl⟩
theorem ent72 : Ent Try.prog 72 := ⟨_, Try.func72, by kernel_rfl, by kernel_rfl⟩
theorem ent73 : Ent Try.prog 73 := ⟨_, Try.func73, by kernel_rfl, by kernel_rfl⟩
theorem ent74 : Ent Try.prog 74 := ⟨_, Try.func74, by kernel_rfl, by kernel_rfl⟩
theorem ent75 : Ent Try.prog 75 := ⟨_, Try.func75, by kernel_rfl, by kernel_rfl⟩
theorem ent76 : Ent Try.prog 76 := ⟨_, Try.func76, by kernel_rfl, by kernel_rfl⟩
theorem ent77 : Ent Try.prog 77 := ⟨_, Try.func77, by kernel_rfl, by kernel_rfl⟩
theorem ent78 : Ent Try.prog 78 := ⟨_, Try.func78, by kernel_rfl, by kernel_rfl⟩
theorem ent79 : Ent Try.prog 79 := ⟨_, Try.func79, by kernel_rfl, by kernel_rfl⟩
theorem ent80 : Ent Try.prog 80 := ⟨_, Try.func80, by kernel_rfl, by kernel_rfl⟩
theorem ent81 : Ent Try.prog 81 := ⟨_, Try.func81, by kernel_rfl, by kernel_rfl⟩
theorem ent82 : Ent Try.prog 82 := ⟨_, Try.func82, by kernel_rfl, by kernel_rfl⟩
theorem ent83 : Ent Try.prog 83 := ⟨_, Try.func83, by kernel_rfl, by kernel_rfl⟩
theorem ent84 : Ent Try.prog 84 := ⟨_, Try.func84, by kernel_rfl, by kernel_rfl⟩
theorem ent85 : Ent Try.prog 85 := ⟨_, Try.func85, by kernel_rfl, by kernel_rfl⟩
theorem ent86 : Ent Try.prog 86 := ⟨_, Try.func86, by kernel_rfl, by kernel_rfl⟩
theorem ent87 : Ent Try.prog 87 := ⟨_, Try.func87, by kernel_rfl, by kernel_rfl⟩
theorem ent88 : Ent Try.prog 88 := ⟨_, Try.func88, by kernel_rfl, by kernel_rfl⟩
theorem ent89 : Ent Try.prog 89 := ⟨_, Try.func89, by kernel_rfl, by kernel_rfl⟩
theorem ent90 : Ent Try.prog 90 := ⟨_, Try.func90, by kernel_rfl, by kernel_rfl⟩
theorem ent91 : Ent Try.prog 91 := ⟨_, Try.func91, by kernel_rfl, by kernel_rfl⟩
theorem ent92 : Ent Try.prog 92 := ⟨_, Try.func92, by kernel_rfl, by kernel_rfl⟩
theorem ent93 : Ent Try.prog 93 := ⟨_, Try.func93, by kernel_rfl, by kernel_rfl⟩
theorem ent94 : Ent Try.prog 94 := ⟨_, Try.func94, by kernel_rfl, by kernel_rfl⟩
theorem ent95 : Ent Try.prog 95 := ⟨_, Try.func95, by kernel_rfl, by kernel_rfl⟩
theorem ent96 : Ent Try.prog 96 := ⟨_, Try.func96, by kernel_rfl, by kernel_rfl⟩
theorem ent97 : Ent Try.prog 97 := ⟨_, Try.func97, by kernel_rfl, by kernel_rfl⟩
theorem ent98 : Ent Try.prog 98 := ⟨_, Try.func98, by kernel_rfl, by kernel_rfl⟩
theorem ent99 : Ent Try.prog 99 := ⟨_, Try.func99, by kernel_rfl, by kernel_rfl⟩
theorem ent100 : Ent Try.prog 100 := ⟨_, Try.func100, by kernel_rfl, by kernel_rfl⟩
theorem ent101 : Ent Try.prog 101 := ⟨_, Try.func101, by kernel_rfl, by kernel_rfl⟩
theorem ent102 : Ent Try.prog 102 := ⟨_, Try.func102, by kernel_rfl, by kernel_rfl⟩
theorem ent103 : Ent Try.prog 103 := ⟨_, Try.func103, by kernel_rfl, by kernel_rfl⟩
theorem ent104 : Ent Try.prog 104 := ⟨_, Try.func104, by kernel_rfl, by kernel_rfl⟩
theorem ent105 : Ent Try.prog 105 := ⟨_, Try.func105, by kernel_rfl, by kernel_rfl⟩
theorem ent106 : Ent Try.prog 106 := ⟨_, Try.func106, by kernel_rfl, by kernel_rfl⟩
theorem ent107 : Ent Try.prog 107 := ⟨_, Try.func107, by kernel_rfl, by kernel_rfl⟩
theorem ent108 : Ent Try.prog 108 := ⟨_, Try.func108, by kernel_rfl, by kernel_rfl⟩
theorem ent109 : Ent Try.prog 109 := ⟨_, Try.func109, by kernel_rfl, by kernel_rfl⟩
theorem ent110 : Ent Try.prog 110 := ⟨_, Try.func110, by kernel_rfl, by kernel_rfl⟩
theorem ent111 : Ent Try.prog 111 := ⟨_, Try.func111, by kernel_rfl, by kernel_rfl⟩
theorem ent112 : Ent Try.prog 112 := ⟨_, Try.func112, by kernel_rfl, by kernel_rfl⟩
theorem ent113 : Ent Try.prog 113 := ⟨_, Try.func113, by kernel_rfl, by kernel_rfl⟩
theorem ent114 : Ent Try.prog 114 := ⟨_, Try.func114, by kernel_rfl, by kernel_rfl⟩
theorem ent115 : Ent Try.prog 115 := ⟨_, Try.func115, by kernel_rfl, by kernel_rfl⟩
theorem ent116 : Ent Try.prog 116 := ⟨_, Try.func116, by kernel_rfl, by kernel_rfl⟩
theorem ent117 : Ent Try.prog 117 := ⟨_, Try.func117, by kernel_rfl, by kernel_rfl⟩
theorem ent118 : Ent Try.prog 118 := ⟨_, Try.func118, by kernel_rfl, by kernel_rfl⟩
theorem ent119 : Ent Try.prog 119 := ⟨_, Try.func119, by kernel_rfl, by kernel_rfl⟩
theorem ent120 : Ent Try.prog 120 := ⟨_, Try.func120, by kernel_rfl, by kernel_rfl⟩
theorem ent121 : Ent Try.prog 121 := ⟨_, Try.func121, by kernel_rfl, by kernel_rfl⟩
theorem ent122 : Ent Try.prog 122 := ⟨_, Try.func122, by kernel_rfl, by kernel_rfl⟩
theorem ent123 : Ent Try.prog 123 := ⟨_, Try.func123, by kernel_rfl, by kernel_rfl⟩
theorem ent124 : Ent Try.prog 124 := ⟨_, Try.func124, by kernel_rfl, by kernel_rfl⟩
theorem ent125 : Ent Try.prog 125 := ⟨_, Try.func125, by kernel_rfl, by kernel_rfl⟩
theorem ent126 : Ent Try.prog 126 := ⟨_, Try.func126, by kernel_rfl, by kernel_rfl⟩
theorem ent127 : Ent Try.prog 127 := ⟨_, Try.func127, by kernel_rfl, by kernel_rfl⟩
theorem ent128 : Ent Try.prog 128 := ⟨_, Try.func128, by kernel_rfl, by kernel_rfl⟩
theorem ent129 : Ent Try.prog 129 := ⟨_, Try.func129, by kernel_rfl, by kernel_rfl⟩
theorem ent130 : Ent Try.prog 130 := ⟨_, Try.func130, by kernel_rfl, by kernel_rfl⟩
theorem ent131 : Ent Try.prog 131 := ⟨_, Try.func131, by kernel_rfl, by kernel_rfl⟩
theorem ent132 : Ent Try.prog 132 := ⟨_, Try.func132, by kernel_rfl, by kernel_rfl⟩
theorem ent133 : Ent Try.prog 133 := ⟨_, Try.func133, by kernel_rfl, by kernel_rfl⟩
theorem ent134 : Ent Try.prog 134 := ⟨_, Try.func134, by kernel_rfl, by kernel_rfl⟩
theorem ent135 : Ent Try.prog 135 := ⟨_, Try.func135, by kernel_rfl, by kernel_rfl⟩
theorem ent136 : Ent Try.prog 136 := ⟨_, Try.func136, by kernel_rfl, by kernel_rfl⟩
theorem ent137 : Ent Try.prog 137 := ⟨_, Try.func137, by kernel_rfl, by kernel_rfl⟩
theorem ent138 : Ent Try.prog 138 := ⟨_, Try.func138, by kernel_rfl, by kernel_rfl⟩
theorem ent139 : Ent Try.prog 139 := ⟨_, Try.func139, by kernel_rfl, by kernel_rfl⟩
theorem ent140 : Ent Try.prog 140 := ⟨_, Try.func140, by kernel_rfl, by kernel_rfl⟩
theorem ent141 : Ent Try.prog 141 := ⟨_, Try.func141, by kernel_rfl, by kernel_rfl⟩
theorem ent142 : Ent Try.prog 142 := ⟨_, Try.func142, by kernel_rfl, by kernel_rfl⟩
theorem ent143 : Ent Try.prog 143 := ⟨_, Try.func143, by kernel_rfl, by kernel_rfl⟩
theorem ent144 : Ent Try.prog 144 := ⟨_, Try.func144, by kernel_rfl, by kernel_rfl⟩
theorem ent145 : Ent Try.prog 145 := ⟨_, Try.func145, by kernel_rfl, by kernel_rfl⟩
theorem ent146 : Ent Try.prog 146 := ⟨_, Try.func146, by kernel_rfl, by kernel_rfl⟩
theorem ent147 : Ent Try.prog 147 := ⟨_, Try.func147, by kernel_rfl, by kernel_rfl⟩
theorem ent148 : Ent Try.prog 148 := ⟨_, Try.func148, by kernel_rfl, by kernel_rfl⟩
theorem ent149 : Ent Try.prog 149 := ⟨_, Try.func149, by kernel_rfl, by kernel_rfl⟩
theorem ent150 : Ent Try.prog 150 := ⟨_, Try.func150, by kernel_rfl, by kernel_rfl⟩
theorem ent151 : Ent Try.prog 151 := ⟨_, Try.func151, by kernel_rfl, by kernel_rfl⟩
theorem ent152 : Ent Try.prog 152 := ⟨_, Try.func152, by kernel_rfl, by kernel_rfl⟩
theorem ent153 : Ent Try.prog 153 := ⟨_, Try.func153, by kernel_rfl, by kernel_rfl⟩
theorem ent154 : Ent Try.prog 154 := ⟨_, Try.func154, by kernel_rfl, by kernel_rfl⟩
theorem ent155 : Ent Try.prog 155 := ⟨_, Try.func155, by kernel_rfl, by kernel_rfl⟩
theorem ent156 : Ent Try.prog 156 := ⟨_, Try.func156, by kernel_rfl, by kernel_rfl⟩
theorem ent157 : Ent Try.prog 157 := ⟨_, Try.func157, by kernel_rfl, by kernel_rfl⟩
theorem ent158 : Ent Try.prog 158 := ⟨_, Try.func158, by kernel_rfl, by kernel_rfl⟩
theorem ent159 : Ent Try.prog 159 := ⟨_, Try.func159, by kernel_rfl, by kernel_rfl⟩
theorem ent160 : Ent Try.prog 160 := ⟨_, Try.func160, by kernel_rfl, by kernel_rfl⟩
theorem ent161 : Ent Try.prog 161 := ⟨_, Try.func161, by kernel_rfl, by kernel_rfl⟩
theorem ent162 : Ent Try.prog 162 := ⟨_, Try.func162, by kernel_rfl, by kernel_rfl⟩
theorem ent163 : Ent Try.prog 163 := ⟨_, Try.func163, by kernel_rfl, by kernel_rfl⟩
theorem ent164 : Ent Try.prog 164 := ⟨_, Try.func164, by kernel_rfl, by kernel_rfl⟩
theorem ent165 : Ent Try.prog 165 := ⟨_, Try.func165, by kernel_rfl, by kernel_rfl⟩
theorem ent166 : Ent Try.prog 166 := ⟨_, Try.func166, by kernel_rfl, by kernel_rfl⟩
theorem ent167 : Ent Try.prog 167 := ⟨_, Try.func167, by kernel_rfl, by kernel_rfl⟩
theorem ent168 : Ent Try.prog 168 := ⟨_, Try.func168, by kernel_rfl, by kernel_rfl⟩
theorem ent169 : Ent Try.prog 169 := ⟨_, Try.func169, by kernel_rfl, by kernel_rfl⟩
theorem ent170 : Ent Try.prog 170 := ⟨_, Try.func170, by kernel_rfl, by kernel_rfl⟩
theorem ent171 : Ent Try.prog 171 := ⟨_, Try.func171, by kernel_rfl, by kernel_rfl⟩
theorem ent172 : Ent Try.prog 172 := ⟨_, Try.func172, by kernel_rfl, by kernel_rfl⟩
theorem ent173 : Ent Try.prog 173 := ⟨_, Try.func173, by kernel_rfl, by kernel_rfl⟩
theorem ent174 : Ent Try.prog 174 := ⟨_, Try.func174, by kernel_rfl, by kernel_rfl⟩
theorem ent175 : Ent Try.prog 175 := ⟨_, Try.func175, by kernel_rfl, by kernel_rfl⟩
theorem ent176 : Ent Try.prog 176 := ⟨_, Try.func176, by kernel_rfl, by kernel_rfl⟩
theorem ent177 : Ent Try.prog 177 := ⟨_, Try.func177, by kernel_rfl, by kernel_rfl⟩
theorem ent178 : Ent Try.prog 178 := ⟨_, Try.func178, by kernel_rfl, by kernel_rfl⟩
theorem ent179 : Ent Try.prog 179 := ⟨_, Try.func179, by kernel_rfl, by kernel_rfl⟩
theorem ent180 : Ent Try.prog 180 := ⟨_, Try.func180, by kernel_rfl, by kernel_rfl⟩
theorem ent181 : Ent Try.prog 181 := ⟨_, Try.func181, by kernel_rfl, by kernel_rfl⟩
theorem ent182 : Ent Try.prog 182 := ⟨_, Try.func182, by kernel_rfl, by kernel_rfl⟩
theorem ent183 : Ent Try.prog 183 := ⟨_, Try.func183, by kernel_rfl, by kernel_rfl⟩
theorem ent184 : Ent Try.prog 184 := ⟨_, Try.func184, by kernel_rfl, by kernel_rfl⟩
theorem ent185 : Ent Try.prog 185 := ⟨_, Try.func185, by kernel_rfl, by kernel_rfl⟩
theorem ent186 : Ent Try.prog 186 := ⟨_, Try.func186, by kernel_rfl, by kernel_rfl⟩
theorem ent187 : Ent Try.prog 187 := ⟨_, Try.func187, by kernel_rfl, by kernel_rfl⟩
theorem ent188 : Ent Try.prog 188 := ⟨_, Try.func188, by kernel_rfl, by kernel_rfl⟩
theorem ent189 : Ent Try.prog 189 := ⟨_, Try.func189, by kernel_rfl, by kernel_rfl⟩
theorem ent190 : Ent Try.prog 190 := ⟨_, Try.func190, by kernel_rfl, by kernel_rfl⟩
theorem ent191 : Ent Try.prog 191 := ⟨_, Try.func191, by kernel_rfl, by kernel_rfl⟩
theorem ent192 : Ent Try.prog 192 := ⟨_, Try.func192, by kernel_rfl, by kernel_rfl⟩
theorem ent193 : Ent Try.prog 193 := ⟨_, Try.func193, by kernel_rfl, by kernel_rfl⟩
theorem ent194 : Ent Try.prog 194 := ⟨_, Try.func194, by kernel_rfl, by kernel_rfl⟩
theorem ent195 : Ent Try.prog 195 := ⟨_, Try.func195, by kernel_rfl, by kernel_rfl⟩
theorem ent196 : Ent Try.prog 196 := ⟨_, Try.func196, by kernel_rfl, by kernel_rfl⟩
theorem ent197 : Ent Try.prog 197 := ⟨_, Try.func197, by kernel_rfl, by kernel_rfl⟩
theorem ent198 : Ent Try.prog 198 := ⟨_, Try.func198, by kernel_rfl, by kernel_rfl⟩
theorem ent199 : Ent Try.prog 199 := ⟨_, Try.func199, by kernel_rfl, by kernel_rfl⟩
theorem ent200 : Ent Try.prog 200 := ⟨_, Try.func200, by kernel_rfl, by kernel_rfl⟩
theorem ent201 : Ent Try.prog 201 := ⟨_, Try.func201, by kernel_rfl, by kernel_rfl⟩
theorem ent202 : Ent Try.prog 202 := ⟨_, Try.func202, by kernel_rfl, by kernel_rfl⟩
theorem ent203 : Ent Try.prog 203 := ⟨_, Try.func203, by kernel_rfl, by kernel_rfl⟩
theorem ent204 : Ent Try.prog 204 := ⟨_, Try.func204, by kernel_rfl, by kernel_rfl⟩
theorem ent205 : Ent Try.prog 205 := ⟨_, Try.func205, by kernel_rfl, by kernel_rfl⟩
theorem ent206 : Ent Try.prog 206 := ⟨_, Try.func206, by kernel_rfl, by kernel_rfl⟩
theorem ent207 : Ent Try.prog 207 := ⟨_, Try.func207, by kernel_rfl, by kernel_rfl⟩
theorem ent208 : Ent Try.prog 208 := ⟨_, Try.func208, by kernel_rfl, by kernel_rfl⟩
theorem ent209 : Ent Try.prog 209 := ⟨_, Try.func209, by kernel_rfl, by kernel_rfl⟩
theorem ent210 : Ent Try.prog 210 := ⟨_, Try.func210, by kernel_rfl, by kernel_rfl⟩
theorem ent211 : Ent Try.prog 211 := ⟨_, Try.func211, by kernel_rfl, by kernel_rfl⟩
theorem ent212 : Ent Try.prog 212 := ⟨_, Try.func212, by kernel_rfl, by kernel_rfl⟩
theorem ent213 : Ent Try.prog 213 := ⟨_, Try.func213, by kernel_rfl, by kernel_rfl⟩
theorem ent214 : Ent Try.prog 214 := ⟨_, Try.func214, by kernel_rfl, by kernel_rfl⟩
theorem ent215 : Ent Try.prog 215 := ⟨_, Try.func215, by kernel_rfl, by kernel_rfl⟩
theorem ent216 : Ent Try.prog 216 := ⟨_, Try.func216, by kernel_rfl, by kernel_rfl⟩
theorem ent217 : Ent Try.prog 217 := ⟨_, Try.func217, by kernel_rfl, by kernel_rfl⟩
theorem ent218 : Ent Try.prog 218 := ⟨_, Try.func218, by kernel_rfl, by kernel_rfl⟩
theorem ent219 : Ent Try.prog 219 := ⟨_, Try.func219, by kernel_rfl, by kernel_rfl⟩
theorem ent220 : Ent Try.prog 220 := ⟨_, Try.func220, by kernel_rfl, by kernel_rfl⟩
theorem ent221 : Ent Try.prog 221 := ⟨_, Try.func221, by kernel_rfl, by kernel_rfl⟩
theorem ent222 : Ent Try.prog 222 := ⟨_, Try.func222, by kernel_rfl, by kernel_rfl⟩
theorem ent223 : Ent Try.prog 223 := ⟨_, Try.func223, by kernel_rfl, by kernel_rfl⟩
theorem ent224 : Ent Try.prog 224 := ⟨_, Try.func224, by kernel_rfl, by kernel_rfl⟩
theorem ent225 : Ent Try.prog 225 := ⟨_, Try.func225, by kernel_rfl, by kernel_rfl⟩
theorem ent226 : Ent Try.prog 226 := ⟨_, Try.func226, by kernel_rfl, by kernel_rfl⟩
theorem ent227 : Ent Try.prog 227 := ⟨_, Try.func227, by kernel_rfl, by kernel_rfl⟩
theorem ent228 : Ent Try.prog 228 := ⟨_, Try.func228, by kernel_rfl, by kernel_rfl⟩
theorem ent229 : Ent Try.prog 229 := ⟨_, Try.func229, by kernel_rfl, by kernel_rfl⟩
theorem ent230 : Ent Try.prog 230 := ⟨_, Try.func230, by kernel_rfl, by kernel_rfl⟩
theorem ent231 : Ent Try.prog 231 := ⟨_, Try.func231, by kernel_rfl, by kernel_rfl⟩
theorem ent232 : Ent Try.prog 232 := ⟨_, Try.func232, by kernel_rfl, by kernel_rfl⟩
theorem ent233 : Ent Try.prog 233 := ⟨_, Try.func233, by kernel_rfl, by kernel_rfl⟩
theorem ent234 : Ent Try.prog 234 := ⟨_, Try.func234, by kernel_rfl, by kernel_rfl⟩
theorem ent235 : Ent Try.prog 235 := ⟨_, Try.func235, by kernel_rfl, by kernel_rfl⟩
theorem ent236 : Ent Try.prog 236 := ⟨_, Try.func236, by kernel_rfl, by kernel_rfl⟩
theorem ent237 : Ent Try.prog 237 := ⟨_, Try.func237, by kernel_rfl, by kernel_rfl⟩
theorem ent238 : Ent Try.prog 238 := ⟨_, Try.func238, by kernel_rfl, by kernel_rfl⟩
theorem ent239 : Ent Try.prog 239 := ⟨_, Try.func239, by kernel_rfl, by kernel_rfl⟩
theorem ent240 : Ent Try.prog 240 := ⟨_, Try.func240, by kernel_rfl, by kernel_rfl⟩
theorem ent241 : Ent Try.prog 241 := ⟨_, Try.func241, by kernel_rfl, by kernel_rfl⟩
theorem ent242 : Ent Try.prog 242 := ⟨_, Try.func242, by kernel_rfl, by kernel_rfl⟩
theorem ent243 : Ent Try.prog 243 := ⟨_, Try.func243, by kernel_rfl, by kernel_rfl⟩
theorem ent244 : Ent Try.prog 244 := ⟨_, Try.func244, by kernel_rfl, by kernel_rfl⟩
theorem ent245 : Ent Try.prog 245 := ⟨_, Try.func245, by kernel_rfl, by kernel_rfl⟩
theorem ent246 : Ent Try.prog 246 := ⟨_, Try.func246, by kernel_rfl, by kernel_rfl⟩
theorem ent247 : Ent Try.prog 247 := ⟨_, Try.func247, by kernel_rfl, by kernel_rfl⟩
theorem ent248 : Ent Try.prog 248 := ⟨_, Try.func248, by kernel_rfl, by kernel_rfl⟩
theorem ent249 : Ent Try.prog 249 := ⟨_, Try.func249, by kernel_rfl, by kernel_rfl⟩
theorem ent250 : Ent Try.prog 250 := ⟨_, Try.func250, by kernel_rfl, by kernel_rfl⟩
theorem ent251 : Ent Try.prog 251 := ⟨_, Try.func251, by kernel_rfl, by kernel_rfl⟩
theorem ent252 : Ent Try.prog 252 := ⟨_, Try.func252, by kernel_rfl, by kernel_rfl⟩
theorem ent253 : Ent Try.prog 253 := ⟨_, Try.func253, by kernel_rfl, by kernel_rfl⟩
theorem ent254 : Ent Try.prog 254 := ⟨_, Try.func254, by kernel_rfl, by kernel_rfl⟩
theorem ent255 : Ent Try.prog 255 := ⟨_, Try.func255, by kernel_rfl, by kernel_rfl⟩
theorem ent256 : Ent Try.prog 256 := ⟨_, Try.func256, by kernel_rfl, by kernel_rfl⟩
theorem ent257 : Ent Try.prog 257 := ⟨_, Try.func257, by kernel_rfl, by kernel_rfl⟩
theorem ent258 : Ent Try.prog 258 := ⟨_, Try.func258, by kernel_rfl, by kernel_rfl⟩
theorem ent259 : Ent Try.prog 259 := ⟨_, Try.func259, by kernel_rfl, by kernel_rfl⟩
theorem ent260 : Ent Try.prog 260 := ⟨_, Try.func260, by kernel_rfl, by kernel_rfl⟩
theorem ent261 : Ent Try.prog 261 := ⟨_, Try.func261, by kernel_rfl, by kernel_rfl⟩
theorem ent262 : Ent Try.prog 262 := ⟨_, Try.func262, by kernel_rfl, by kernel_rfl⟩
theorem ent263 : Ent Try.prog 263 := ⟨_, Try.func263, by kernel_rfl, by kernel_rfl⟩
theorem ent264 : Ent Try.prog 264 := ⟨_, Try.func264, by kernel_rfl, by kernel_rfl⟩
theorem ent265 : Ent Try.prog 265 := ⟨_, Try.func265, by kernel_rfl, by kernel_rfl⟩
theorem ent266 : Ent Try.prog 266 := ⟨_, Try.func266, by kernel_rfl, by kernel_rfl⟩
theorem ent267 : Ent Try.prog 267 := ⟨_, Try.func267, by kernel_rfl, by kernel_rfl⟩
theorem ent268 : Ent Try.prog 268 := ⟨_, Try.func268, by kernel_rfl, by kernel_rfl⟩
theorem ent269 : Ent Try.prog 269 := ⟨_, Try.func269, by kernel_rfl, by kernel_rfl⟩
theorem ent270 : Ent Try.prog 270 := ⟨_, Try.func270, by kernel_rfl, by kernel_rfl⟩
theorem ent271 : Ent Try.prog 271 := ⟨_, Try.func271, by kernel_rfl, by kernel_rfl⟩
theorem ent272 : Ent Try.prog 272 := ⟨_, Try.func272, by kernel_rfl, by kernel_rfl⟩
theorem ent273 : Ent Try.prog 273 := ⟨_, Try.func273, by kernel_rfl, by kernel_rfl⟩
theorem ent274 : Ent Try.prog 274 := ⟨_, Try.func274, by kernel_rfl, by kernel_rfl⟩
theorem ent275 : Ent Try.prog 275 := ⟨_, Try.func275, by kernel_rfl, by kernel_rfl⟩
theorem ent276 : Ent Try.prog 276 := ⟨_, Try.func276, by kernel_rfl, by kernel_rfl⟩
theorem ent277 : Ent Try.prog 277 := ⟨_, Try.func277, by kernel_rfl, by kernel_rfl⟩
theorem ent278 : Ent Try.prog 278 := ⟨_, Try.func278, by kernel_rfl, by kernel_rfl⟩
theorem ent279 : Ent Try.prog 279 := ⟨_, Try.func279, by kernel_rfl, by kernel_rfl⟩
theorem ent280 : Ent Try.prog 280 := ⟨_, Try.func280, by kernel_rfl, by kernel_rfl⟩
theorem ent281 : Ent Try.prog 281 := ⟨_, Try.func281, by kernel_rfl, by kernel_rfl⟩
theorem ent282 : Ent Try.prog 282 := ⟨_, Try.func282, by kernel_rfl, by kernel_rfl⟩
theorem ent283 : Ent Try.prog 283 := ⟨_, Try.func283, by kernel_rfl, by kernel_rfl⟩
theorem ent284 : Ent Try.prog 284 := ⟨_, Try.func284, by kernel_rfl, by kernel_rfl⟩
theorem ent285 : Ent Try.prog 285 := ⟨_, Try.func285, by kernel_rfl, by kernel_rfl⟩
theorem ent286 : Ent Try.prog 286 := ⟨_, Try.func286, by kernel_rfl, by kernel_rfl⟩
theorem ent287 : Ent Try.prog 287 := ⟨_, Try.func287, by kernel_rfl, by kernel_rfl⟩
theorem ent288 : Ent Try.prog 288 := ⟨_, Try.func288, by kernel_rfl, by kernel_rfl⟩
theorem ent289 : Ent Try.prog 289 := ⟨_, Try.func289, by kernel_rfl, by kernel_rfl⟩
theorem ent290 : Ent Try.prog 290 := ⟨_, Try.func290, by kernel_rfl, by kernel_rfl⟩
theorem ent291 : Ent Try.prog 291 := ⟨_, Try.func291, by kernel_rfl, by kernel_rfl⟩
theorem ent292 : Ent Try.prog 292 := ⟨_, Try.func292, by kernel_rfl, by kernel_rfl⟩
theorem ent293 : Ent Try.prog 293 := ⟨_, Try.func293, by kernel_rfl, by kernel_rfl⟩
theorem ent294 : Ent Try.prog 294 := ⟨_, Try.func294, by kernel_rfl, by kernel_rfl⟩
theorem ent295 : Ent Try.prog 295 := ⟨_, Try.func295, by kernel_rfl, by kernel_rfl⟩
theorem ent296 : Ent Try.prog 296 := ⟨_, Try.func296, by kernel_rfl, by kernel_rfl⟩
theorem ent297 : Ent Try.prog 297 := ⟨_, Try.func297, by kernel_rfl, by kernel_rfl⟩
theorem ent298 : Ent Try.prog 298 := ⟨_, Try.func298, by kernel_rfl, by kernel_rfl⟩
theorem ent299 : Ent Try.prog 299 := ⟨_, Try.func299, by kernel_rfl, by kernel_rfl⟩
theorem ent300 : Ent Try.prog 300 := ⟨_, Try.func300, by kernel_rfl, by kernel_rfl⟩
theorem ent301 : Ent Try.prog 301 := ⟨_, Try.func301, by kernel_rfl, by kernel_rfl⟩
theorem ent302 : Ent Try.prog 302 := ⟨_, Try.func302, by kernel_rfl, by kernel_rfl⟩
theorem ent303 : Ent Try.prog 303 := ⟨_, Try.func303, by kernel_rfl, by kernel_rfl⟩
theorem ent304 : Ent Try.prog 304 := ⟨_, Try.func304, by kernel_rfl, by kernel_rfl⟩
theorem ent305 : Ent Try.prog 305 := ⟨_, Try.func305, by kernel_rfl, by kernel_rfl⟩
theorem ent306 : Ent Try.prog 306 := ⟨_, Try.func306, by kernel_rfl, by kernel_rfl⟩
theorem ent307 : Ent Try.prog 307 := ⟨_, Try.func307, by kernel_rfl, by kernel_rfl⟩
theorem ent308 : Ent Try.prog 308 := ⟨_, Try.func308, by kernel_rfl, by kernel_rfl⟩
theorem ent309 : Ent Try.prog 309 := ⟨_, Try.func309, by kernel_rfl, by kernel_rfl⟩
theorem ent310 : Ent Try.prog 310 := ⟨_, Try.func310, by kernel_rfl, by kernel_rfl⟩
theorem ent311 : Ent Try.prog 311 := ⟨_, Try.func311, by kernel_rfl, by kernel_rfl⟩
theorem ent312 : Ent Try.prog 312 := ⟨_, Try.func312, by kernel_rfl, by kernel_rfl⟩
theorem ent313 : Ent Try.prog 313 := ⟨_, Try.func313, by kernel_rfl, by kernel_rfl⟩
theorem ent314 : Ent Try.prog 314 := ⟨_, Try.func314, by kernel_rfl, by kernel_rfl⟩
theorem ent315 : Ent Try.prog 315 := ⟨_, Try.func315, by kernel_rfl, by kernel_rfl⟩
theorem ent316 : Ent Try.prog 316 := ⟨_, Try.func316, by kernel_rfl, by kernel_rfl⟩
theorem ent323 : Ent Try.prog 323 := ⟨_, Try.func323, by kernel_rfl, by kernel_rfl⟩
theorem ent324 : Ent Try.prog 324 := ⟨_, Try.func324, by kernel_rfl, by kernel_rfl⟩
theorem ent326 : Ent Try.prog 326 := ⟨_, Try.func326, by kernel_rfl, by kernel_rfl⟩
theorem ent327 : Ent Try.prog 327 := ⟨_, Try.func327, by kernel_rfl, by kernel_rfl⟩
theorem ent332 : Ent Try.prog 332 := ⟨_, Try.func332, by kernel_rfl, by kernel_rfl⟩
theorem ent335 : Ent Try.prog 335 := ⟨_, Try.func335, by kernel_rfl, by kernel_rfl⟩
theorem ent336 : Ent Try.prog 336 := ⟨_, Try.func336, by kernel_rfl, by kernel_rfl⟩
theorem ent337 : Ent Try.prog 337 := ⟨_, Try.func337, by kernel_rfl, by kernel_rfl⟩
theorem ent338 : Ent Try.prog 338 := ⟨_, Try.func338, by kernel_rfl, by kernel_rfl⟩
theorem ent339 : Ent Try.prog 339 := ⟨_, Try.func339, by kernel_rfl, by kernel_rfl⟩
theorem ent340 : Ent Try.prog 340 := ⟨_, Try.func340, by kernel_rfl, by kernel_rfl⟩
theorem ent341 : Ent Try.prog 341 := ⟨_, Try.func341, by kernel_rfl, by kernel_rfl⟩
theorem ent342 : Ent Try.prog 342 := ⟨_, Try.func342, by kernel_rfl, by kernel_rfl⟩
theorem ent343 : Ent Try.prog 343 := ⟨_, Try.func343, by kernel_rfl, by kernel_rfl⟩
theorem ent344 : Ent Try.prog 344 := ⟨_, Try.func344, by kernel_rfl, by kernel_rfl⟩
theorem ent345 : Ent Try.prog 345 := ⟨_, Try.func345, by kernel_rfl, by kernel_rfl⟩
theorem ent346 : Ent Try.prog 346 := ⟨_, Try.func346, by kernel_rfl, by kernel_rfl⟩
theorem ent347 : Ent Try.prog 347 := ⟨_, Try.func347, by kernel_rfl, by kernel_rfl⟩
theorem ent348 : Ent Try.prog 348 := ⟨_, Try.func348, by kernel_rfl, by kernel_rfl⟩
theorem ent349 : Ent Try.prog 349 := ⟨_, Try.func349, by kernel_rfl, by kernel_rfl⟩
theorem ent350 : Ent Try.prog 350 := ⟨_, Try.func350, by kernel_rfl, by kernel_rfl⟩
theorem ent356 : Ent Try.prog 356 := ⟨_, Try.func356, by kernel_rfl, by kernel_rfl⟩
theorem ent357 : Ent Try.prog 357 := ⟨_, Try.func357, by kernel_rfl, by kernel_rfl⟩
theorem ent358 : Ent Try.prog 358 := ⟨_, Try.func358, by kernel_rfl, by kernel_rfl⟩
theorem ent359 : Ent Try.prog 359 := ⟨_, Try.func359, by kernel_rfl, by kernel_rfl⟩
theorem ent360 : Ent Try.prog 360 := ⟨_, Try.func360, by kernel_rfl, by kernel_rfl⟩
theorem ent361 : Ent Try.prog 361 := ⟨_, Try.func361, by kernel_rfl, by kernel_rfl⟩
theorem ent362 : Ent Try.prog 362 := ⟨_, Try.func362, by kernel_rfl, by kernel_rfl⟩
theorem ent363 : Ent Try.prog 363 := ⟨_, Try.func363, by kernel_rfl, by kernel_rfl⟩
theorem ent364 : Ent Try.prog 364 := ⟨_, Try.func364, by kernel_rfl, by kernel_rfl⟩
theorem ent365 : Ent Try.prog 365 := ⟨_, Try.func365, by kernel_rfl, by kernel_rfl⟩
theorem ent366 : Ent Try.prog 366 := ⟨_, Try.func366, by kernel_rfl, by kernel_rfl⟩
theorem ent367 : Ent Try.prog 367 := ⟨_, Try.func367, by kernel_rfl, by kernel_rfl⟩
theorem ent368 : Ent Try.prog 368 := ⟨_, Try.func368, by kernel_rfl, by kernel_rfl⟩
theorem ent369 : Ent Try.prog 369 := ⟨_, Try.func369, by kernel_rfl, by kernel_rfl⟩
theorem ent370 : Ent Try.prog 370 := ⟨_, Try.func370, by kernel_rfl, by kernel_rfl⟩
theorem ent371 : Ent Try.prog 371 := ⟨_, Try.func371, by kernel_rfl, by kernel_rfl⟩
theorem ent372 : Ent Try.prog 372 := ⟨_, Try.func372, by kernel_rfl, by kernel_rfl⟩
theorem ent373 : Ent Try.prog 373 := ⟨_, Try.func373, by kernel_rfl, by kernel_rfl⟩
theorem ent374 : Ent Try.prog 374 := ⟨_, Try.func374, by kernel_rfl, by kernel_rfl⟩
theorem ent390 : Ent Try.prog 390 := ⟨_, Try.func390, by kernel_rfl, by kernel_rfl⟩
theorem ent391 : Ent Try.prog 391 := ⟨_, Try.func391, by kernel_rfl, by kernel_rfl⟩
end Go.Proofs.Ytdgaabkgfbihpaa
