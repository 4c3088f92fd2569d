/- The document's digest: a block. -/
import Derived.Test.YtcbfnbmkogeehaaDoorSg
namespace Go.Proofs.YtcbfnbmkogeehaaDoor
open Go.RowKit

noncomputable def code15 : Code := (Tryd.f8.body.bind (seqAt 15)).getD .skip
attribute [local irreducible] wpList in
set_option maxRecDepth 100000 in
set_option maxHeartbeats 8000000 in
theorem part15 (hb g5 c5 p k K : Nat) (M : List UInt8) (w3 wr : World) (Q : Exit → Act → World → Prop) (u0 u1 u2 u4 u5 u9 u10 u11 u12 u13 u14 u15 u16 u17 u18 u19 u20 u21 u22 u23 u24 u25 u26 u27 u28 u29 u30 u31 u32 u33 u34 u35 u36 u37 u38 u39 u40 u41 u42 u43 u44 u45 u46 u47 u48 u49 u50 u51 u52 u53 u54 u55 u56 u57 u58 u59 u60 u61 u62 u63 u64 u65 u66 u67 u68 u69 u70 u71 u72 u73 u74 u75 u76 u77 u78 u79 u80 u81 u82 u83 u84 u85 u86 u87 u88 u89 u90 u91 u92 u93 u94 u95 u96 u97 u98 u99 u100 u101 u102 u103 u104 u105 u106 u107 u108 u109 u110 u111 u112 u113 u114 u115 u116 u117 u118 u119 u120 u121 u122 u123 u124 u125 u126 u127 u128 u129 u130 u131 u132 u133 u134 u135 u136 u137 u138 u139 u140 u141 u142 u143 u144 u145 u146 u147 u148 u149 u150 u151 u152 u153 u154 u155 u156 u157 u158 u159 u160 u161 u162 u163 u164 u165 u166 u167 u168 u169 u170 u171 u172 u173 u174 u175 u176 u177 u178 u179 u180 u181 u182 u183 u184 u185 u186 u187 u188 u189 u190 u191 u192 u193 u194 u195 u196 u197 u198 u199 u200 u201 u202 u203 u204 u205 u206 u207 u208 u209 u210 u211 u212 u213 u214 u215 u216 u217 u218 u219 u220 u221 u222 u223 u224 u225 u226 u227 u228 u229 u230 u231 u232 u233 u234 u235 u236 u237 u238 u239 u240 u241 u242 u243 u244 u245 u246 u247 u248 u249 u250 u251 u252 u253 u254 u255 u256 u257 u258 u259 u260 u261 u262 u263 u264 u265 u266 u267 u268 u269 u270 u271 u272 u273 u274 u275 u276 u277 u278 u279 u280 u281 u282 u283 u284 u285 u286 u287 u288 u289 u290 u291 u292 u293 u294 u295 u296 u297 u298 u299 u300 u301 u302 u303 u304 u305 u306 u307 u308 u309 u310 u311 u312 u313 u314 u315 u316 u317 u318 u319 u320 u321 u322 u323 u324 u325 u326 u327 u328 u329 u330 u331 u332 u333 u334 u335 u336 u337 u338 u339 u340 u341 u342 u343 u344 u345 u346 u347 u348 u349 u350 u351 u352 u353 u354 u355 u356 u357 u358 u359 u360 u361 u362 u363 u364 u365 u366 u367 u368 u369 u370 u371 u372 u373 : Value)
    (hpk : p = 64 * k) (hKK : M.length = 64 * K) (hML : M.length ≤ 200000) (hlt : k < K) (hex : Ex hb w3 wr)
    (hHB : Blk wr hb 52 ((Bst M k).list.map W).toArray) (hHK : Blk w3 (hb + 1) 52 (kt.map W).toArray)
    (hPC : ∀ j x, M[j]? = some x → w3.cell? ⟨g5, j, none⟩ = some (U x)) (hG5 : g5 ≠ hb) (hKB : hb + 1 < w3.heap.size)
    (hp : ∀ c a a' w, a.defers = a'.defers → Q (.panic c) a w → Q (.panic c) a' w)
    (hq : ∀ (n9 n10 n11 n12 n13 n14 n15 n16 n17 n18 n19 n20 n21 n22 n61 n62 n63 n64 n65 n66 n67 n68 n69 n70 n71 n72 n73 n74 n75 n76 n77 n78 n79 n80 n81 n82 n83 n84 n85 n86 n87 n88 n89 n90 n91 n92 n93 n94 n95 n96 n97 n98 n99 n100 n101 n102 n103 n104 n105 n106 n107 n108 n109 n110 n111 n112 n113 n114 n115 n116 n117 n118 n119 n120 n121 n122 n123 n124 n125 n126 n127 n128 n129 n130 n131 n132 n133 n134 n135 n136 n137 n138 n139 n140 n141 n142 n143 n144 n145 n146 n147 n148 n149 n150 n151 n152 n153 n154 n155 n156 n157 n158 n159 n160 n161 n162 n163 n164 n165 n166 n167 n168 n169 n170 n171 n172 n173 n174 n175 n176 n177 n178 n179 n180 n181 n182 n183 n184 n185 n186 n187 n188 n189 n190 n191 n192 n193 n194 n195 n196 n197 n198 n199 n200 n201 n202 n203 n204 n205 n206 n207 n208 n209 n210 n211 n212 n213 n214 n215 n216 n217 n218 n219 n220 n221 n222 n223 n224 n225 n226 n227 n228 n229 n230 n231 n232 n233 n234 n235 n236 n237 n238 n239 n240 n241 n242 n243 n244 n245 n246 n247 n248 n249 n250 n251 n252 n253 n254 n255 n256 n257 n258 n259 n260 n261 n262 n263 n264 n265 n266 n267 n268 n269 n270 n271 n272 n273 n274 n275 n276 n277 n278 n279 n280 n281 n282 n283 n284 n285 n286 n287 n288 n289 n290 n291 n292 n293 n294 n295 n296 n297 n298 n299 n300 n301 n302 n303 n304 n305 n306 n307 n308 n309 n310 n311 n312 n313 n314 n315 n316 n317 n318 n319 n320 n321 n322 n323 n324 n325 n326 n327 n328 n329 n330 : Value) (w' : World), Ex hb w3 w' → Blk w' hb 52 ((Bst M (k + 1)).list.map W).toArray → Q .normal ⟨#[u0, u1, u2, .slice (some ⟨g5, 0, none⟩) M.length c5, u4, u5, .slice (some ⟨hb, 0, none⟩) 8 8, .slice (some ⟨hb + 1, 0, none⟩) 64 64, .int .i64 (p : Int), n9, n10, n11, n12, n13, n14, n15, n16, n17, n18, n19, n20, n21, n22, u23, u24, u25, u26, u27, u28, u29, u30, u31, u32, u33, u34, u35, u36, u37, u38, u39, u40, u41, u42, u43, u44, u45, u46, u47, u48, u49, u50, u51, u52, u53, u54, u55, u56, u57, u58, u59, u60, n61, n62, n63, n64, n65, n66, n67, n68, n69, n70, n71, n72, n73, n74, n75, n76, n77, n78, n79, n80, n81, n82, n83, n84, n85, n86, n87, n88, n89, n90, n91, n92, n93, n94, n95, n96, n97, n98, n99, n100, n101, n102, n103, n104, n105, n106, n107, n108, n109, n110, n111, n112, n113, n114, n115, n116, n117, n118, n119, n120, n121, n122, n123, n124, n125, n126, n127, n128, n129, n130, n131, n132, n133, n134, n135, n136, n137, n138, n139, n140, n141, n142, n143, n144, n145, n146, n147, n148, n149, n150, n151, n152, n153, n154, n155, n156, n157, n158, n159, n160, n161, n162, n163, n164, n165, n166, n167, n168, n169, n170, n171, n172, n173, n174, n175, n176, n177, n178, n179, n180, n181, n182, n183, n184, n185, n186, n187, n188, n189, n190, n191, n192, n193, n194, n195, n196, n197, n198, n199, n200, n201, n202, n203, n204, n205, n206, n207, n208, n209, n210, n211, n212, n213, n214, n215, n216, n217, n218, n219, n220, n221, n222, n223, n224, n225, n226, n227, n228, n229, n230, n231, n232, n233, n234, n235, n236, n237, n238, n239, n240, n241, n242, n243, n244, n245, n246, n247, n248, n249, n250, n251, n252, n253, n254, n255, n256, n257, n258, n259, n260, n261, n262, n263, n264, n265, n266, n267, n268, n269, n270, n271, n272, n273, n274, n275, n276, n277, n278, n279, n280, n281, n282, n283, n284, n285, n286, n287, n288, n289, n290, n291, n292, n293, n294, n295, n296, n297, n298, n299, n300, n301, n302, n303, n304, n305, n306, n307, n308, n309, n310, n311, n312, n313, n314, n315, n316, n317, n318, n319, n320, n321, n322, n323, n324, n325, n326, n327, n328, n329, n330, u331, u332, u333, u334, u335, u336, u337, u338, u339, u340, u341, u342, u343, u344, u345, u346, u347, u348, u349, u350, u351, u352, u353, u354, u355, u356, u357, u358, u359, u360, u361, u362, u363, u364, u365, u366, u367, u368, u369, u370, u371, u372, u373], []⟩ w') :
    Code.wp Tryd.prog code15 Q ⟨#[u0, u1, u2, .slice (some ⟨g5, 0, none⟩) M.length c5, u4, u5, .slice (some ⟨hb, 0, none⟩) 8 8, .slice (some ⟨hb + 1, 0, none⟩) 64 64, .int .i64 (p : Int), u9, u10, u11, u12, u13, u14, u15, u16, u17, u18, u19, u20, u21, u22, u23, u24, u25, u26, u27, u28, u29, u30, u31, u32, u33, u34, u35, u36, u37, u38, u39, u40, u41, u42, u43, u44, u45, u46, u47, u48, u49, u50, u51, u52, u53, u54, u55, u56, u57, u58, u59, u60, u61, u62, u63, u64, u65, u66, u67, u68, u69, u70, u71, u72, u73, u74, u75, u76, u77, u78, u79, u80, u81, u82, u83, u84, u85, u86, u87, u88, u89, u90, u91, u92, u93, u94, u95, u96, u97, u98, u99, u100, u101, u102, u103, u104, u105, u106, u107, u108, u109, u110, u111, u112, u113, u114, u115, u116, u117, u118, u119, u120, u121, u122, u123, u124, u125, u126, u127, u128, u129, u130, u131, u132, u133, u134, u135, u136, u137, u138, u139, u140, u141, u142, u143, u144, u145, u146, u147, u148, u149, u150, u151, u152, u153, u154, u155, u156, u157, u158, u159, u160, u161, u162, u163, u164, u165, u166, u167, u168, u169, u170, u171, u172, u173, u174, u175, u176, u177, u178, u179, u180, u181, u182, u183, u184, u185, u186, u187, u188, u189, u190, u191, u192, u193, u194, u195, u196, u197, u198, u199, u200, u201, u202, u203, u204, u205, u206, u207, u208, u209, u210, u211, u212, u213, u214, u215, u216, u217, u218, u219, u220, u221, u222, u223, u224, u225, u226, u227, u228, u229, u230, u231, u232, u233, u234, u235, u236, u237, u238, u239, u240, u241, u242, u243, u244, u245, u246, u247, u248, u249, u250, u251, u252, u253, u254, u255, u256, u257, u258, u259, u260, u261, u262, u263, u264, u265, u266, u267, u268, u269, u270, u271, u272, u273, u274, u275, u276, u277, u278, u279, u280, u281, u282, u283, u284, u285, u286, u287, u288, u289, u290, u291, u292, u293, u294, u295, u296, u297, u298, u299, u300, u301, u302, u303, u304, u305, u306, u307, u308, u309, u310, u311, u312, u313, u314, u315, u316, u317, u318, u319, u320, u321, u322, u323, u324, u325, u326, u327, u328, u329, u330, u331, u332, u333, u334, u335, u336, u337, u338, u339, u340, u341, u342, u343, u344, u345, u346, u347, u348, u349, u350, u351, u352, u353, u354, u355, u356, u357, u358, u359, u360, u361, u362, u363, u364, u365, u366, u367, u368, u369, u370, u371, u372, u373], []⟩ wr := by
  have HQ := Lib.hid hq
  have HPP := Lib.hid hp
  have HP := Lib.hid hpk
  have HK := Lib.hid hKK
  have HML := Lib.hid hML
  have HEX := Lib.hid hex
  have HHB := Lib.hid hHB
  have HK3' := Lib.hid hHK
  have HPC := Lib.hid hPC
  have HG5 := Lib.hid hG5
  have HKB := Lib.hid hKB
  clear hq hp hpk hKK hML hex hHB hHK hPC hG5 hKB
  have hml := HML.out
  have hkk := HK.out
  have hp9 := HP.out
  have r1 := run_conv
  have r2 := run_or
  have r3 : ∀ x w, (binOp .shl 52 (W x) (.int .u64 24)).run Tryd.prog w = .ok (W (x <<< 24)) w := fun x w => run_shl 52 x 24 (by decide) w
  have r4 : ∀ x w, (binOp .shl 52 (W x) (.int .u64 16)).run Tryd.prog w = .ok (W (x <<< 16)) w := fun x w => run_shl 52 x 16 (by decide) w
  have r5 : ∀ x w, (binOp .shl 52 (W x) (.int .u64 8)).run Tryd.prog w = .ok (W (x <<< 8)) w := fun x w => run_shl 52 x 8 (by decide) w
  have r6 : ∀ x, (W x).cells = #[W x] := fun _ => rfl
  unfold Value.cells at r6
  have r7 := fun (x : UInt32) (a : Addr) (w : World) => run_store Tryd.prog w a (W x) .plain rfl
  have hlt2 : (p : Int) < (M.length : Int) := by omega
  obtain ⟨m, hm⟩ : ∃ m : Nat → UInt8, m = fun j => M.getD (p + j) 0 := ⟨_, rfl⟩
  have hpm : ∀ j, j < 64 → w3.cell? ⟨g5, p + j, none⟩ = some (U (m j)) := fun j hj => by
    refine HPC.out _ _ ?_
    rw [hm]
    have hjl : p + j < M.length := by omega
    simp [List.getD, hjl]
  have HPM := Lib.hid hpm
  have HMM := Lib.hid hm
  clear hpm hm
  have hmk := make53
  clear hml hkk hp9
  conv => arg 2; whnf
  refine wp_seq_k fun K1 hK1 => ?_
  have HK1 := Lib.hid hK1
  clear hK1
  go_wp2
  refine HK1.out _ _ ?_
  refine wp_seq_k fun K2 hK2 => ?_
  have HK2 := Lib.hid hK2
  clear hK2 HK1
  go_wp2
  have hwb : Blk (wr.alloc (.cells (Array.replicate 64 (.int .u32 0)) 52)) wr.heap.size 52 (Array.replicate 64 (.int .u32 0)) := Blk.fresh wr _ _
  have hwx : Ex hb w3 (wr.alloc (.cells (Array.replicate 64 (.int .u32 0)) 52)) := HEX.out.trans (Ex.alloc hb wr _)
  have hhw : Blk (wr.alloc (.cells (Array.replicate 64 (.int .u32 0)) 52)) hb 52 ((Bst M k).list.map W).toArray := HHB.out.more _
  have hwl : hb < wr.heap.size ∧ hb + 1 < wr.heap.size ∧ g5 < wr.heap.size := by
    have a := HEX.out.size
    have b := HKB.out
    have c := World.block_lt_of_cell? w3 _ (HPM.out 0 (by decide))
    refine ⟨by omega, by omega, ?_⟩
    have c' : g5 < w3.heap.size := c
    omega
  have hsz5 : (wr.alloc (.cells (Array.replicate 64 (.int .u32 0)) 52)).heap.size = wr.heap.size + 1 := by simp
  have hw3 : w3.heap.size ≤ wr.heap.size := HEX.out.size
  generalize wr.alloc (.cells (Array.replicate 64 (.int .u32 0)) 52) = w5 at *
  generalize wr.heap.size = wb at *
  have HWB := Lib.hid hwb
  have HWX := Lib.hid hwx
  have HHW := Lib.hid hhw
  have HWL := Lib.hid hwl
  have HW3 := Lib.hid hw3
  have HSZ5 := Lib.hid hsz5
  clear hwb hwx hhw hwl hmk hsz5 hw3
  go_loopw [10] (fun i wr => ∃ j : Nat, j ≤ 16 ∧ i = .int .i64 j ∧ Ex wb w5 wr ∧ ∃ cs, Blk wr wb 52 cs ∧ cs.size = 64 ∧ ∀ i, i < j → cs[i]? = some (W (wd m i))) (fun i _ => 16 - (intOf i).toNat)
  case atStart => exact ⟨0, Nat.zero_le _, rfl, Ex.refl _ _, _, HWB.out, Array.size_replicate, fun i hi => absurd hi (Nat.not_lt_zero i)⟩
  case round =>
    obtain ⟨j, hj, rfl, hx, cs, hcs, hc64, hw⟩ := hrel
    have HX := Lib.hid hx
    have HCS := Lib.hid hcs
    have HW := Lib.hid hw
    have HC64 := Lib.hid hc64
    have d1 := hcs.cell
    have d2 := hcs.thaw
    clear hx hcs hw hc64
    by_cases hlt4 : j < 16
    · have hml := HML.out
      have hkk := HK.out
      have hp9 := HP.out
      have hpw : ∀ i, i < 64 → wr.cell? ⟨g5, p + i, none⟩ = some (U (m i)) := fun i hi => by
        have a := HWL.out
        rw [World.cell?_of_block (HX.out.block g5 (by have := HSZ5.out; omega) (by omega))]
        rw [World.cell?_of_block (HWX.out.block g5 (World.block_lt_of_cell? w3 _ (HPM.out 0 (by decide))) HG5.out)]
        exact HPM.out i hi
      obtain ⟨q4, hq4⟩ : ∃ q4, q4 = 4 * j := ⟨_, rfl⟩
      obtain ⟨a0, ha0⟩ : ∃ a0, a0 = p + q4 := ⟨_, rfl⟩
      obtain ⟨a1, ha1⟩ : ∃ a1, a1 = a0 + 1 := ⟨_, rfl⟩
      obtain ⟨a2, ha2⟩ : ∃ a2, a2 = a0 + 2 := ⟨_, rfl⟩
      obtain ⟨a3, ha3⟩ : ∃ a3, a3 = a0 + 3 := ⟨_, rfl⟩
      have p0 := hpw (4 * j) (by omega)
      have p1 := hpw (4 * j + 1) (by omega)
      have p2 := hpw (4 * j + 2) (by omega)
      have p3 := hpw (4 * j + 3) (by omega)
      rw [show p + 4 * j = a0 by omega] at p0
      rw [show p + (4 * j + 1) = a1 by omega] at p1
      rw [show p + (4 * j + 2) = a2 by omega] at p2
      rw [show p + (4 * j + 3) = a3 by omega] at p3
      have hwd : wd m j = (((m (4 * j)).toUInt32 <<< 24 ||| (m (4 * j + 1)).toUInt32 <<< 16) ||| (m (4 * j + 2)).toUInt32 <<< 8) ||| (m (4 * j + 3)).toUInt32 := rfl
      generalize m (4 * j) = b0 at *
      generalize m (4 * j + 1) = b1 at *
      generalize m (4 * j + 2) = b2 at *
      generalize m (4 * j + 3) = b3 at *
      have d3 : cs[j]? = some (cs[j]'(by rw [HC64.out]; omega)) := by simp
      have hj64 : (j : Int) < 64 := by omega
      have l0 : (a0 : Int) < (M.length : Int) := by omega
      have l1 : (a1 : Int) < (M.length : Int) := by omega
      have l2 : (a2 : Int) < (M.length : Int) := by omega
      have l3 : (a3 : Int) < (M.length : Int) := by omega
      have HQ4 := Lib.hid hq4
      have HA0 := Lib.hid ha0
      have HA1 := Lib.hid ha1
      have HA2 := Lib.hid ha2
      have HA3 := Lib.hid ha3
      have P0 := Lib.hid p0
      have P1 := Lib.hid p1
      have P2 := Lib.hid p2
      have P3 := Lib.hid p3
      have HWD := Lib.hid hwd
      have HDR := Lib.hid (DR.drew wr)
      have hp2 : p ≤ 200000 := by omega
      have HP2 := Lib.hid hp2
      clear hpw hq4 ha0 ha1 ha2 ha3 p0 p1 p2 p3 hwd hp2 hml hkk hp9 d1 d2 d3 hlt2
      go_wp2
      refine wp_region_pre (by kernel_rfl) (R := DR) DR.refl (fun _ _ _ h k => h.trans k) 44 [[9], [10], [3], [8], [10], [70], [69, 71], [68, 72], [73], [74], [75], [3], [8], [10], [79], [78, 80], [81], [77, 82], [83], [84], [85], [76, 86], [3], [8], [10], [90], [89, 91], [92], [88, 93], [94], [95], [96], [87, 97], [3], [8], [10], [101], [100, 102], [103], [99, 104], [105], [106], [98, 107], [66, 67]]
        [(66, .slice (some ⟨wb, 0, none⟩) 64 64), (67, .int .i64 (j : Int)), (68, .slice (some ⟨g5, 0, none⟩) M.length c5), (69, .int .i64 (p : Int)), (70, .int .i64 (j : Int)), (71, .int .i64 (q4 : Int)), (72, .int .i64 (a0 : Int)), (73, .pointer (some ⟨g5, a0, none⟩)), (74, U b0), (75, W (b0).toUInt32), (76, W ((b0).toUInt32 <<< 24)), (77, .slice (some ⟨g5, 0, none⟩) M.length c5), (78, .int .i64 (p : Int)), (79, .int .i64 (j : Int)), (80, .int .i64 (q4 : Int)), (81, .int .i64 (a0 : Int)), (82, .int .i64 (a1 : Int)), (83, .pointer (some ⟨g5, a1, none⟩)), (84, U b1), (85, W (b1).toUInt32), (86, W ((b1).toUInt32 <<< 16)), (87, W (((b0).toUInt32 <<< 24) ||| ((b1).toUInt32 <<< 16))), (88, .slice (some ⟨g5, 0, none⟩) M.length c5), (89, .int .i64 (p : Int)), (90, .int .i64 (j : Int)), (91, .int .i64 (q4 : Int)), (92, .int .i64 (a0 : Int)), (93, .int .i64 (a2 : Int)), (94, .pointer (some ⟨g5, a2, none⟩)), (95, U b2), (96, W (b2).toUInt32), (97, W ((b2).toUInt32 <<< 8)), (98, W ((((b0).toUInt32 <<< 24) ||| ((b1).toUInt32 <<< 16)) ||| ((b2).toUInt32 <<< 8))), (99, .slice (some ⟨g5, 0, none⟩) M.length c5), (100, .int .i64 (p : Int)), (101, .int .i64 (j : Int)), (102, .int .i64 (q4 : Int)), (103, .int .i64 (a0 : Int)), (104, .int .i64 (a3 : Int)), (105, .pointer (some ⟨g5, a3, none⟩)), (106, U b3), (107, W (b3).toUInt32), (108, W (((((b0).toUInt32 <<< 24) ||| ((b1).toUInt32 <<< 16)) ||| ((b2).toUInt32 <<< 8)) ||| (b3).toUInt32)), (109, .pointer (some ⟨wb, j, none⟩))]
        374 rfl (by decide) (by kernel_rfl) (by kernel_rfl) (by simp) (by kernel_rfl) (by kernel_rfl) ?_ ?_
      · refine ⟨?_, ?_, ?_, ?_, ?_, ?_, ?_, ?_, ?_, ?_, ?_, ?_, ?_, ?_, ?_, ?_, ?_, ?_, ?_, ?_, ?_, ?_, ?_, ?_, ?_, ?_, ?_, ?_, ?_, ?_, ?_, ?_, ?_, ?_, ?_, ?_, ?_, ?_, ?_, ?_, ?_, ?_, ?_, ?_, trivial⟩
        · as_aux_lemma =>
          refine UpOb.plain rfl fun a W1 hR hl K hK => ?_
          have hD : DR wr W1 := HDR.out.trans hR
          have h9 : a.tmps.getD 9 undef = (.slice (some ⟨wb, 0, none⟩) 64 64) := hl 9 (by decide)
          replace hK : ∀ v W2, DR W1 W2 → v = (.slice (some ⟨wb, 0, none⟩) 64 64) → K (a.put (some 66) v) W2 := fun v W2 h1 h2 => hK v W2 h1 (fun d hd => by cases hd; exact h2)
          clear hl
          simp only [Array.getD_eq_getD_getElem?] at h9
          go_simp
          exact hK _ W1 (DR.refl W1) rfl
        · as_aux_lemma =>
          refine UpOb.plain rfl fun a W1 hR hl K hK => ?_
          have hD : DR wr W1 := HDR.out.trans hR
          have h10 : a.tmps.getD 10 undef = (.int .i64 (j : Int)) := hl 10 (by decide)
          replace hK : ∀ v W2, DR W1 W2 → v = (.int .i64 (j : Int)) → K (a.put (some 67) v) W2 := fun v W2 h1 h2 => hK v W2 h1 (fun d hd => by cases hd; exact h2)
          clear hl
          simp only [Array.getD_eq_getD_getElem?] at h10
          go_simp
          exact hK _ W1 (DR.refl W1) rfl
        · as_aux_lemma =>
          refine UpOb.plain rfl fun a W1 hR hl K hK => ?_
          have hD : DR wr W1 := HDR.out.trans hR
          have h3 : a.tmps.getD 3 undef = (.slice (some ⟨g5, 0, none⟩) M.length c5) := hl 3 (by decide)
          replace hK : ∀ v W2, DR W1 W2 → v = (.slice (some ⟨g5, 0, none⟩) M.length c5) → K (a.put (some 68) v) W2 := fun v W2 h1 h2 => hK v W2 h1 (fun d hd => by cases hd; exact h2)
          clear hl
          simp only [Array.getD_eq_getD_getElem?] at h3
          go_simp
          exact hK _ W1 (DR.refl W1) rfl
        · as_aux_lemma =>
          refine UpOb.plain rfl fun a W1 hR hl K hK => ?_
          have hD : DR wr W1 := HDR.out.trans hR
          have h8 : a.tmps.getD 8 undef = (.int .i64 (p : Int)) := hl 8 (by decide)
          replace hK : ∀ v W2, DR W1 W2 → v = (.int .i64 (p : Int)) → K (a.put (some 69) v) W2 := fun v W2 h1 h2 => hK v W2 h1 (fun d hd => by cases hd; exact h2)
          clear hl
          simp only [Array.getD_eq_getD_getElem?] at h8
          go_simp
          exact hK _ W1 (DR.refl W1) rfl
        · as_aux_lemma =>
          refine UpOb.plain rfl fun a W1 hR hl K hK => ?_
          have hD : DR wr W1 := HDR.out.trans hR
          have h10 : a.tmps.getD 10 undef = (.int .i64 (j : Int)) := hl 10 (by decide)
          replace hK : ∀ v W2, DR W1 W2 → v = (.int .i64 (j : Int)) → K (a.put (some 70) v) W2 := fun v W2 h1 h2 => hK v W2 h1 (fun d hd => by cases hd; exact h2)
          clear hl
          simp only [Array.getD_eq_getD_getElem?] at h10
          go_simp
          exact hK _ W1 (DR.refl W1) rfl
        · as_aux_lemma =>
          refine UpOb.plain rfl fun a W1 hR hl K hK => ?_
          have hD : DR wr W1 := HDR.out.trans hR
          have h70 : a.tmps.getD 70 undef = (.int .i64 (j : Int)) := hl 70 (by decide)
          replace hK : ∀ v W2, DR W1 W2 → v = (.int .i64 (q4 : Int)) → K (a.put (some 71) v) W2 := fun v W2 h1 h2 => hK v W2 h1 (fun d hd => by cases hd; exact h2)
          clear hl
          simp only [Array.getD_eq_getD_getElem?] at h70
          go_simp
          have := HQ4.out
          exact hK _ W1 (DR.refl W1) (congrArg (Value.int .i64) (by rw [IntWalk.i64_in] <;> omega))
        · as_aux_lemma =>
          refine UpOb.plain rfl fun a W1 hR hl K hK => ?_
          have hD : DR wr W1 := HDR.out.trans hR
          have h69 : a.tmps.getD 69 undef = (.int .i64 (p : Int)) := hl 69 (by decide)
          have h71 : a.tmps.getD 71 undef = (.int .i64 (q4 : Int)) := hl 71 (by decide)
          replace hK : ∀ v W2, DR W1 W2 → v = (.int .i64 (a0 : Int)) → K (a.put (some 72) v) W2 := fun v W2 h1 h2 => hK v W2 h1 (fun d hd => by cases hd; exact h2)
          clear hl
          simp only [Array.getD_eq_getD_getElem?] at h69 h71
          go_simp
          have := HQ4.out
          have := HA0.out
          have := HP2.out
          exact hK _ W1 (DR.refl W1) (congrArg (Value.int .i64) (by rw [IntWalk.i64_in] <;> omega))
        · as_aux_lemma =>
          refine UpOb.plain rfl fun a W1 hR hl K hK => ?_
          have hD : DR wr W1 := HDR.out.trans hR
          have h68 : a.tmps.getD 68 undef = (.slice (some ⟨g5, 0, none⟩) M.length c5) := hl 68 (by decide)
          have h72 : a.tmps.getD 72 undef = (.int .i64 (a0 : Int)) := hl 72 (by decide)
          replace hK : ∀ v W2, DR W1 W2 → v = (.pointer (some ⟨g5, a0, none⟩)) → K (a.put (some 73) v) W2 := fun v W2 h1 h2 => hK v W2 h1 (fun d hd => by cases hd; exact h2)
          clear hl
          simp only [Array.getD_eq_getD_getElem?] at h68 h72
          go_simp
          exact hK _ W1 (DR.refl W1) rfl
        · as_aux_lemma =>
          refine UpOb.plain rfl fun a W1 hR hl K hK => ?_
          have hD : DR wr W1 := HDR.out.trans hR
          have h73 : a.tmps.getD 73 undef = (.pointer (some ⟨g5, a0, none⟩)) := hl 73 (by decide)
          replace hK : ∀ v W2, DR W1 W2 → v = (U b0) → K (a.put (some 74) v) W2 := fun v W2 h1 h2 => hK v W2 h1 (fun d hd => by cases hd; exact h2)
          clear hl
          have hc : W1.cell? ⟨g5, a0, none⟩ = some (U b0) := (hD.cell _).trans (P0.out)
          simp only [Array.getD_eq_getD_getElem?] at h73
          go_simp
          exact hK _ W1 (DR.refl W1) rfl
        · as_aux_lemma =>
          refine UpOb.plain rfl fun a W1 hR hl K hK => ?_
          have hD : DR wr W1 := HDR.out.trans hR
          have h74 : a.tmps.getD 74 undef = (U b0) := hl 74 (by decide)
          replace hK : ∀ v W2, DR W1 W2 → v = (W (b0).toUInt32) → K (a.put (some 75) v) W2 := fun v W2 h1 h2 => hK v W2 h1 (fun d hd => by cases hd; exact h2)
          clear hl
          simp only [Array.getD_eq_getD_getElem?] at h74
          go_simp
          exact hK _ W1 (DR.refl W1) rfl
        · as_aux_lemma =>
          refine UpOb.plain rfl fun a W1 hR hl K hK => ?_
          have hD : DR wr W1 := HDR.out.trans hR
          have h75 : a.tmps.getD 75 undef = (W (b0).toUInt32) := hl 75 (by decide)
          replace hK : ∀ v W2, DR W1 W2 → v = (W ((b0).toUInt32 <<< 24)) → K (a.put (some 76) v) W2 := fun v W2 h1 h2 => hK v W2 h1 (fun d hd => by cases hd; exact h2)
          clear hl
          simp only [Array.getD_eq_getD_getElem?] at h75
          go_simp
          exact hK _ W1 (DR.refl W1) rfl
        · as_aux_lemma =>
          refine UpOb.plain rfl fun a W1 hR hl K hK => ?_
          have hD : DR wr W1 := HDR.out.trans hR
          have h3 : a.tmps.getD 3 undef = (.slice (some ⟨g5, 0, none⟩) M.length c5) := hl 3 (by decide)
          replace hK : ∀ v W2, DR W1 W2 → v = (.slice (some ⟨g5, 0, none⟩) M.length c5) → K (a.put (some 77) v) W2 := fun v W2 h1 h2 => hK v W2 h1 (fun d hd => by cases hd; exact h2)
          clear hl
          simp only [Array.getD_eq_getD_getElem?] at h3
          go_simp
          exact hK _ W1 (DR.refl W1) rfl
        · as_aux_lemma =>
          refine UpOb.plain rfl fun a W1 hR hl K hK => ?_
          have hD : DR wr W1 := HDR.out.trans hR
          have h8 : a.tmps.getD 8 undef = (.int .i64 (p : Int)) := hl 8 (by decide)
          replace hK : ∀ v W2, DR W1 W2 → v = (.int .i64 (p : Int)) → K (a.put (some 78) v) W2 := fun v W2 h1 h2 => hK v W2 h1 (fun d hd => by cases hd; exact h2)
          clear hl
          simp only [Array.getD_eq_getD_getElem?] at h8
          go_simp
          exact hK _ W1 (DR.refl W1) rfl
        · as_aux_lemma =>
          refine UpOb.plain rfl fun a W1 hR hl K hK => ?_
          have hD : DR wr W1 := HDR.out.trans hR
          have h10 : a.tmps.getD 10 undef = (.int .i64 (j : Int)) := hl 10 (by decide)
          replace hK : ∀ v W2, DR W1 W2 → v = (.int .i64 (j : Int)) → K (a.put (some 79) v) W2 := fun v W2 h1 h2 => hK v W2 h1 (fun d hd => by cases hd; exact h2)
          clear hl
          simp only [Array.getD_eq_getD_getElem?] at h10
          go_simp
          exact hK _ W1 (DR.refl W1) rfl
        · as_aux_lemma =>
          refine UpOb.plain rfl fun a W1 hR hl K hK => ?_
          have hD : DR wr W1 := HDR.out.trans hR
          have h79 : a.tmps.getD 79 undef = (.int .i64 (j : Int)) := hl 79 (by decide)
          replace hK : ∀ v W2, DR W1 W2 → v = (.int .i64 (q4 : Int)) → K (a.put (some 80) v) W2 := fun v W2 h1 h2 => hK v W2 h1 (fun d hd => by cases hd; exact h2)
          clear hl
          simp only [Array.getD_eq_getD_getElem?] at h79
          go_simp
          have := HQ4.out
          exact hK _ W1 (DR.refl W1) (congrArg (Value.int .i64) (by rw [IntWalk.i64_in] <;> omega))
        · as_aux_lemma =>
          refine UpOb.plain rfl fun a W1 hR hl K hK => ?_
          have hD : DR wr W1 := HDR.out.trans hR
          have h78 : a.tmps.getD 78 undef = (.int .i64 (p : Int)) := hl 78 (by decide)
          have h80 : a.tmps.getD 80 undef = (.int .i64 (q4 : Int)) := hl 80 (by decide)
          replace hK : ∀ v W2, DR W1 W2 → v = (.int .i64 (a0 : Int)) → K (a.put (some 81) v) W2 := fun v W2 h1 h2 => hK v W2 h1 (fun d hd => by cases hd; exact h2)
          clear hl
          simp only [Array.getD_eq_getD_getElem?] at h78 h80
          go_simp
          have := HQ4.out
          have := HA0.out
          have := HP2.out
          exact hK _ W1 (DR.refl W1) (congrArg (Value.int .i64) (by rw [IntWalk.i64_in] <;> omega))
        · as_aux_lemma =>
          refine UpOb.plain rfl fun a W1 hR hl K hK => ?_
          have hD : DR wr W1 := HDR.out.trans hR
          have h81 : a.tmps.getD 81 undef = (.int .i64 (a0 : Int)) := hl 81 (by decide)
          replace hK : ∀ v W2, DR W1 W2 → v = (.int .i64 (a1 : Int)) → K (a.put (some 82) v) W2 := fun v W2 h1 h2 => hK v W2 h1 (fun d hd => by cases hd; exact h2)
          clear hl
          simp only [Array.getD_eq_getD_getElem?] at h81
          go_simp
          have := HQ4.out
          have := HA0.out
          have := HA1.out
          have := HP2.out
          exact hK _ W1 (DR.refl W1) (congrArg (Value.int .i64) (by rw [IntWalk.i64_in] <;> omega))
        · as_aux_lemma =>
          refine UpOb.plain rfl fun a W1 hR hl K hK => ?_
          have hD : DR wr W1 := HDR.out.trans hR
          have h77 : a.tmps.getD 77 undef = (.slice (some ⟨g5, 0, none⟩) M.length c5) := hl 77 (by decide)
          have h82 : a.tmps.getD 82 undef = (.int .i64 (a1 : Int)) := hl 82 (by decide)
          replace hK : ∀ v W2, DR W1 W2 → v = (.pointer (some ⟨g5, a1, none⟩)) → K (a.put (some 83) v) W2 := fun v W2 h1 h2 => hK v W2 h1 (fun d hd => by cases hd; exact h2)
          clear hl
          simp only [Array.getD_eq_getD_getElem?] at h77 h82
          go_simp
          exact hK _ W1 (DR.refl W1) rfl
        · as_aux_lemma =>
          refine UpOb.plain rfl fun a W1 hR hl K hK => ?_
          have hD : DR wr W1 := HDR.out.trans hR
          have h83 : a.tmps.getD 83 undef = (.pointer (some ⟨g5, a1, none⟩)) := hl 83 (by decide)
          replace hK : ∀ v W2, DR W1 W2 → v = (U b1) → K (a.put (some 84) v) W2 := fun v W2 h1 h2 => hK v W2 h1 (fun d hd => by cases hd; exact h2)
          clear hl
          have hc : W1.cell? ⟨g5, a1, none⟩ = some (U b1) := (hD.cell _).trans (P1.out)
          simp only [Array.getD_eq_getD_getElem?] at h83
          go_simp
          exact hK _ W1 (DR.refl W1) rfl
        · as_aux_lemma =>
          refine UpOb.plain rfl fun a W1 hR hl K hK => ?_
          have hD : DR wr W1 := HDR.out.trans hR
          have h84 : a.tmps.getD 84 undef = (U b1) := hl 84 (by decide)
          replace hK : ∀ v W2, DR W1 W2 → v = (W (b1).toUInt32) → K (a.put (some 85) v) W2 := fun v W2 h1 h2 => hK v W2 h1 (fun d hd => by cases hd; exact h2)
          clear hl
          simp only [Array.getD_eq_getD_getElem?] at h84
          go_simp
          exact hK _ W1 (DR.refl W1) rfl
        · as_aux_lemma =>
          refine UpOb.plain rfl fun a W1 hR hl K hK => ?_
          have hD : DR wr W1 := HDR.out.trans hR
          have h85 : a.tmps.getD 85 undef = (W (b1).toUInt32) := hl 85 (by decide)
          replace hK : ∀ v W2, DR W1 W2 → v = (W ((b1).toUInt32 <<< 16)) → K (a.put (some 86) v) W2 := fun v W2 h1 h2 => hK v W2 h1 (fun d hd => by cases hd; exact h2)
          clear hl
          simp only [Array.getD_eq_getD_getElem?] at h85
          go_simp
          exact hK _ W1 (DR.refl W1) rfl
        · as_aux_lemma =>
          refine UpOb.plain rfl fun a W1 hR hl K hK => ?_
          have hD : DR wr W1 := HDR.out.trans hR
          have h76 : a.tmps.getD 76 undef = (W ((b0).toUInt32 <<< 24)) := hl 76 (by decide)
          have h86 : a.tmps.getD 86 undef = (W ((b1).toUInt32 <<< 16)) := hl 86 (by decide)
          replace hK : ∀ v W2, DR W1 W2 → v = (W (((b0).toUInt32 <<< 24) ||| ((b1).toUInt32 <<< 16))) → K (a.put (some 87) v) W2 := fun v W2 h1 h2 => hK v W2 h1 (fun d hd => by cases hd; exact h2)
          clear hl
          simp only [Array.getD_eq_getD_getElem?] at h76 h86
          go_simp
          exact hK _ W1 (DR.refl W1) rfl
        · as_aux_lemma =>
          refine UpOb.plain rfl fun a W1 hR hl K hK => ?_
          have hD : DR wr W1 := HDR.out.trans hR
          have h3 : a.tmps.getD 3 undef = (.slice (some ⟨g5, 0, none⟩) M.length c5) := hl 3 (by decide)
          replace hK : ∀ v W2, DR W1 W2 → v = (.slice (some ⟨g5, 0, none⟩) M.length c5) → K (a.put (some 88) v) W2 := fun v W2 h1 h2 => hK v W2 h1 (fun d hd => by cases hd; exact h2)
          clear hl
          simp only [Array.getD_eq_getD_getElem?] at h3
          go_simp
          exact hK _ W1 (DR.refl W1) rfl
        · as_aux_lemma =>
          refine UpOb.plain rfl fun a W1 hR hl K hK => ?_
          have hD : DR wr W1 := HDR.out.trans hR
          have h8 : a.tmps.getD 8 undef = (.int .i64 (p : Int)) := hl 8 (by decide)
          replace hK : ∀ v W2, DR W1 W2 → v = (.int .i64 (p : Int)) → K (a.put (some 89) v) W2 := fun v W2 h1 h2 => hK v W2 h1 (fun d hd => by cases hd; exact h2)
          clear hl
          simp only [Array.getD_eq_getD_getElem?] at h8
          go_simp
          exact hK _ W1 (DR.refl W1) rfl
        · as_aux_lemma =>
          refine UpOb.plain rfl fun a W1 hR hl K hK => ?_
          have hD : DR wr W1 := HDR.out.trans hR
          have h10 : a.tmps.getD 10 undef = (.int .i64 (j : Int)) := hl 10 (by decide)
          replace hK : ∀ v W2, DR W1 W2 → v = (.int .i64 (j : Int)) → K (a.put (some 90) v) W2 := fun v W2 h1 h2 => hK v W2 h1 (fun d hd => by cases hd; exact h2)
          clear hl
          simp only [Array.getD_eq_getD_getElem?] at h10
          go_simp
          exact hK _ W1 (DR.refl W1) rfl
        · as_aux_lemma =>
          refine UpOb.plain rfl fun a W1 hR hl K hK => ?_
          have hD : DR wr W1 := HDR.out.trans hR
          have h90 : a.tmps.getD 90 undef = (.int .i64 (j : Int)) := hl 90 (by decide)
          replace hK : ∀ v W2, DR W1 W2 → v = (.int .i64 (q4 : Int)) → K (a.put (some 91) v) W2 := fun v W2 h1 h2 => hK v W2 h1 (fun d hd => by cases hd; exact h2)
          clear hl
          simp only [Array.getD_eq_getD_getElem?] at h90
          go_simp
          have := HQ4.out
          exact hK _ W1 (DR.refl W1) (congrArg (Value.int .i64) (by rw [IntWalk.i64_in] <;> omega))
        · as_aux_lemma =>
          refine UpOb.plain rfl fun a W1 hR hl K hK => ?_
          have hD : DR wr W1 := HDR.out.trans hR
          have h89 : a.tmps.getD 89 undef = (.int .i64 (p : Int)) := hl 89 (by decide)
          have h91 : a.tmps.getD 91 undef = (.int .i64 (q4 : Int)) := hl 91 (by decide)
          replace hK : ∀ v W2, DR W1 W2 → v = (.int .i64 (a0 : Int)) → K (a.put (some 92) v) W2 := fun v W2 h1 h2 => hK v W2 h1 (fun d hd => by cases hd; exact h2)
          clear hl
          simp only [Array.getD_eq_getD_getElem?] at h89 h91
          go_simp
          have := HQ4.out
          have := HA0.out
          have := HP2.out
          exact hK _ W1 (DR.refl W1) (congrArg (Value.int .i64) (by rw [IntWalk.i64_in] <;> omega))
        · as_aux_lemma =>
          refine UpOb.plain rfl fun a W1 hR hl K hK => ?_
          have hD : DR wr W1 := HDR.out.trans hR
          have h92 : a.tmps.getD 92 undef = (.int .i64 (a0 : Int)) := hl 92 (by decide)
          replace hK : ∀ v W2, DR W1 W2 → v = (.int .i64 (a2 : Int)) → K (a.put (some 93) v) W2 := fun v W2 h1 h2 => hK v W2 h1 (fun d hd => by cases hd; exact h2)
          clear hl
          simp only [Array.getD_eq_getD_getElem?] at h92
          go_simp
          have := HQ4.out
          have := HA0.out
          have := HA2.out
          have := HP2.out
          exact hK _ W1 (DR.refl W1) (congrArg (Value.int .i64) (by rw [IntWalk.i64_in] <;> omega))
        · as_aux_lemma =>
          refine UpOb.plain rfl fun a W1 hR hl K hK => ?_
          have hD : DR wr W1 := HDR.out.trans hR
          have h88 : a.tmps.getD 88 undef = (.slice (some ⟨g5, 0, none⟩) M.length c5) := hl 88 (by decide)
          have h93 : a.tmps.getD 93 undef = (.int .i64 (a2 : Int)) := hl 93 (by decide)
          replace hK : ∀ v W2, DR W1 W2 → v = (.pointer (some ⟨g5, a2, none⟩)) → K (a.put (some 94) v) W2 := fun v W2 h1 h2 => hK v W2 h1 (fun d hd => by cases hd; exact h2)
          clear hl
          simp only [Array.getD_eq_getD_getElem?] at h88 h93
          go_simp
          exact hK _ W1 (DR.refl W1) rfl
        · as_aux_lemma =>
          refine UpOb.plain rfl fun a W1 hR hl K hK => ?_
          have hD : DR wr W1 := HDR.out.trans hR
          have h94 : a.tmps.getD 94 undef = (.pointer (some ⟨g5, a2, none⟩)) := hl 94 (by decide)
          replace hK : ∀ v W2, DR W1 W2 → v = (U b2) → K (a.put (some 95) v) W2 := fun v W2 h1 h2 => hK v W2 h1 (fun d hd => by cases hd; exact h2)
          clear hl
          have hc : W1.cell? ⟨g5, a2, none⟩ = some (U b2) := (hD.cell _).trans (P2.out)
          simp only [Array.getD_eq_getD_getElem?] at h94
          go_simp
          exact hK _ W1 (DR.refl W1) rfl
        · as_aux_lemma =>
          refine UpOb.plain rfl fun a W1 hR hl K hK => ?_
          have hD : DR wr W1 := HDR.out.trans hR
          have h95 : a.tmps.getD 95 undef = (U b2) := hl 95 (by decide)
          replace hK : ∀ v W2, DR W1 W2 → v = (W (b2).toUInt32) → K (a.put (some 96) v) W2 := fun v W2 h1 h2 => hK v W2 h1 (fun d hd => by cases hd; exact h2)
          clear hl
          simp only [Array.getD_eq_getD_getElem?] at h95
          go_simp
          exact hK _ W1 (DR.refl W1) rfl
        · as_aux_lemma =>
          refine UpOb.plain rfl fun a W1 hR hl K hK => ?_
          have hD : DR wr W1 := HDR.out.trans hR
          have h96 : a.tmps.getD 96 undef = (W (b2).toUInt32) := hl 96 (by decide)
          replace hK : ∀ v W2, DR W1 W2 → v = (W ((b2).toUInt32 <<< 8)) → K (a.put (some 97) v) W2 := fun v W2 h1 h2 => hK v W2 h1 (fun d hd => by cases hd; exact h2)
          clear hl
          simp only [Array.getD_eq_getD_getElem?] at h96
          go_simp
          exact hK _ W1 (DR.refl W1) rfl
        · as_aux_lemma =>
          refine UpOb.plain rfl fun a W1 hR hl K hK => ?_
          have hD : DR wr W1 := HDR.out.trans hR
          have h87 : a.tmps.getD 87 undef = (W (((b0).toUInt32 <<< 24) ||| ((b1).toUInt32 <<< 16))) := hl 87 (by decide)
          have h97 : a.tmps.getD 97 undef = (W ((b2).toUInt32 <<< 8)) := hl 97 (by decide)
          replace hK : ∀ v W2, DR W1 W2 → v = (W ((((b0).toUInt32 <<< 24) ||| ((b1).toUInt32 <<< 16)) ||| ((b2).toUInt32 <<< 8))) → K (a.put (some 98) v) W2 := fun v W2 h1 h2 => hK v W2 h1 (fun d hd => by cases hd; exact h2)
          clear hl
          simp only [Array.getD_eq_getD_getElem?] at h87 h97
          go_simp
          exact hK _ W1 (DR.refl W1) rfl
        · as_aux_lemma =>
          refine UpOb.plain rfl fun a W1 hR hl K hK => ?_
          have hD : DR wr W1 := HDR.out.trans hR
          have h3 : a.tmps.getD 3 undef = (.slice (some ⟨g5, 0, none⟩) M.length c5) := hl 3 (by decide)
          replace hK : ∀ v W2, DR W1 W2 → v = (.slice (some ⟨g5, 0, none⟩) M.length c5) → K (a.put (some 99) v) W2 := fun v W2 h1 h2 => hK v W2 h1 (fun d hd => by cases hd; exact h2)
          clear hl
          simp only [Array.getD_eq_getD_getElem?] at h3
          go_simp
          exact hK _ W1 (DR.refl W1) rfl
        · as_aux_lemma =>
          refine UpOb.plain rfl fun a W1 hR hl K hK => ?_
          have hD : DR wr W1 := HDR.out.trans hR
          have h8 : a.tmps.getD 8 undef = (.int .i64 (p : Int)) := hl 8 (by decide)
          replace hK : ∀ v W2, DR W1 W2 → v = (.int .i64 (p : Int)) → K (a.put (some 100) v) W2 := fun v W2 h1 h2 => hK v W2 h1 (fun d hd => by cases hd; exact h2)
          clear hl
          simp only [Array.getD_eq_getD_getElem?] at h8
          go_simp
          exact hK _ W1 (DR.refl W1) rfl
        · as_aux_lemma =>
          refine UpOb.plain rfl fun a W1 hR hl K hK => ?_
          have hD : DR wr W1 := HDR.out.trans hR
          have h10 : a.tmps.getD 10 undef = (.int .i64 (j : Int)) := hl 10 (by decide)
          replace hK : ∀ v W2, DR W1 W2 → v = (.int .i64 (j : Int)) → K (a.put (some 101) v) W2 := fun v W2 h1 h2 => hK v W2 h1 (fun d hd => by cases hd; exact h2)
          clear hl
          simp only [Array.getD_eq_getD_getElem?] at h10
          go_simp
          exact hK _ W1 (DR.refl W1) rfl
        · as_aux_lemma =>
          refine UpOb.plain rfl fun a W1 hR hl K hK => ?_
          have hD : DR wr W1 := HDR.out.trans hR
          have h101 : a.tmps.getD 101 undef = (.int .i64 (j : Int)) := hl 101 (by decide)
          replace hK : ∀ v W2, DR W1 W2 → v = (.int .i64 (q4 : Int)) → K (a.put (some 102) v) W2 := fun v W2 h1 h2 => hK v W2 h1 (fun d hd => by cases hd; exact h2)
          clear hl
          simp only [Array.getD_eq_getD_getElem?] at h101
          go_simp
          have := HQ4.out
          exact hK _ W1 (DR.refl W1) (congrArg (Value.int .i64) (by rw [IntWalk.i64_in] <;> omega))
        · as_aux_lemma =>
          refine UpOb.plain rfl fun a W1 hR hl K hK => ?_
          have hD : DR wr W1 := HDR.out.trans hR
          have h100 : a.tmps.getD 100 undef = (.int .i64 (p : Int)) := hl 100 (by decide)
          have h102 : a.tmps.getD 102 undef = (.int .i64 (q4 : Int)) := hl 102 (by decide)
          replace hK : ∀ v W2, DR W1 W2 → v = (.int .i64 (a0 : Int)) → K (a.put (some 103) v) W2 := fun v W2 h1 h2 => hK v W2 h1 (fun d hd => by cases hd; exact h2)
          clear hl
          simp only [Array.getD_eq_getD_getElem?] at h100 h102
          go_simp
          have := HQ4.out
          have := HA0.out
          have := HP2.out
          exact hK _ W1 (DR.refl W1) (congrArg (Value.int .i64) (by rw [IntWalk.i64_in] <;> omega))
        · as_aux_lemma =>
          refine UpOb.plain rfl fun a W1 hR hl K hK => ?_
          have hD : DR wr W1 := HDR.out.trans hR
          have h103 : a.tmps.getD 103 undef = (.int .i64 (a0 : Int)) := hl 103 (by decide)
          replace hK : ∀ v W2, DR W1 W2 → v = (.int .i64 (a3 : Int)) → K (a.put (some 104) v) W2 := fun v W2 h1 h2 => hK v W2 h1 (fun d hd => by cases hd; exact h2)
          clear hl
          simp only [Array.getD_eq_getD_getElem?] at h103
          go_simp
          have := HQ4.out
          have := HA0.out
          have := HA3.out
          have := HP2.out
          exact hK _ W1 (DR.refl W1) (congrArg (Value.int .i64) (by rw [IntWalk.i64_in] <;> omega))
        · as_aux_lemma =>
          refine UpOb.plain rfl fun a W1 hR hl K hK => ?_
          have hD : DR wr W1 := HDR.out.trans hR
          have h99 : a.tmps.getD 99 undef = (.slice (some ⟨g5, 0, none⟩) M.length c5) := hl 99 (by decide)
          have h104 : a.tmps.getD 104 undef = (.int .i64 (a3 : Int)) := hl 104 (by decide)
          replace hK : ∀ v W2, DR W1 W2 → v = (.pointer (some ⟨g5, a3, none⟩)) → K (a.put (some 105) v) W2 := fun v W2 h1 h2 => hK v W2 h1 (fun d hd => by cases hd; exact h2)
          clear hl
          simp only [Array.getD_eq_getD_getElem?] at h99 h104
          go_simp
          exact hK _ W1 (DR.refl W1) rfl
        · as_aux_lemma =>
          refine UpOb.plain rfl fun a W1 hR hl K hK => ?_
          have hD : DR wr W1 := HDR.out.trans hR
          have h105 : a.tmps.getD 105 undef = (.pointer (some ⟨g5, a3, none⟩)) := hl 105 (by decide)
          replace hK : ∀ v W2, DR W1 W2 → v = (U b3) → K (a.put (some 106) v) W2 := fun v W2 h1 h2 => hK v W2 h1 (fun d hd => by cases hd; exact h2)
          clear hl
          have hc : W1.cell? ⟨g5, a3, none⟩ = some (U b3) := (hD.cell _).trans (P3.out)
          simp only [Array.getD_eq_getD_getElem?] at h105
          go_simp
          exact hK _ W1 (DR.refl W1) rfl
        · as_aux_lemma =>
          refine UpOb.plain rfl fun a W1 hR hl K hK => ?_
          have hD : DR wr W1 := HDR.out.trans hR
          have h106 : a.tmps.getD 106 undef = (U b3) := hl 106 (by decide)
          replace hK : ∀ v W2, DR W1 W2 → v = (W (b3).toUInt32) → K (a.put (some 107) v) W2 := fun v W2 h1 h2 => hK v W2 h1 (fun d hd => by cases hd; exact h2)
          clear hl
          simp only [Array.getD_eq_getD_getElem?] at h106
          go_simp
          exact hK _ W1 (DR.refl W1) rfl
        · as_aux_lemma =>
          refine UpOb.plain rfl fun a W1 hR hl K hK => ?_
          have hD : DR wr W1 := HDR.out.trans hR
          have h98 : a.tmps.getD 98 undef = (W ((((b0).toUInt32 <<< 24) ||| ((b1).toUInt32 <<< 16)) ||| ((b2).toUInt32 <<< 8))) := hl 98 (by decide)
          have h107 : a.tmps.getD 107 undef = (W (b3).toUInt32) := hl 107 (by decide)
          replace hK : ∀ v W2, DR W1 W2 → v = (W (((((b0).toUInt32 <<< 24) ||| ((b1).toUInt32 <<< 16)) ||| ((b2).toUInt32 <<< 8)) ||| (b3).toUInt32)) → K (a.put (some 108) v) W2 := fun v W2 h1 h2 => hK v W2 h1 (fun d hd => by cases hd; exact h2)
          clear hl
          simp only [Array.getD_eq_getD_getElem?] at h98 h107
          go_simp
          exact hK _ W1 (DR.refl W1) rfl
        · as_aux_lemma =>
          refine UpOb.plain rfl fun a W1 hR hl K hK => ?_
          have hD : DR wr W1 := HDR.out.trans hR
          have h66 : a.tmps.getD 66 undef = (.slice (some ⟨wb, 0, none⟩) 64 64) := hl 66 (by decide)
          have h67 : a.tmps.getD 67 undef = (.int .i64 (j : Int)) := hl 67 (by decide)
          replace hK : ∀ v W2, DR W1 W2 → v = (.pointer (some ⟨wb, j, none⟩)) → K (a.put (some 109) v) W2 := fun v W2 h1 h2 => hK v W2 h1 (fun d hd => by cases hd; exact h2)
          clear hl
          simp only [Array.getD_eq_getD_getElem?] at h66 h67
          go_simp
          exact hK _ W1 (DR.refl W1) rfl
      · intro W19 hW
        replace hW : DR wr W19 := HDR.out.trans hW
        have HW19 := Lib.hid hW
        clear hW
        simp only [filled, List.foldl, List.setIfInBounds_toArray, List.set, List.drop_succ_cons, List.drop_zero]
        have hbw : Blk W19 wb 52 cs := HW19.out.blk HCS.out
        have d1 := hbw.cell
        have d2 := hbw.thaw
        have d3 : cs[j]? = some (cs[j]'(by rw [HC64.out]; omega)) := by simp
        go_wp2
        go_roundw
        case rel =>
          refine ⟨j + 1, by omega, by go_num, (HX.out.trans (HW19.out.ex wb)).trans (Ex.setCell wb j _ _), _, hbw.put j _, by rw [Array.size_setIfInBounds]; exact HC64.out, fun i hi => ?_⟩
          by_cases e : i = j
          · subst e
            rw [Array.getElem?_setIfInBounds_self_of_lt (by rw [HC64.out]; omega), HWD.out]
          · rw [Array.getElem?_setIfInBounds_ne (fun h => e h.symm)]
            exact HW.out i (by omega)
        case measure => simp [intOf]; omega
    · obtain rfl : j = 16 := by omega
      go_wp2
      refine HK2.out _ _ ?_
      refine wp_seq_k fun K3 hK3 => ?_
      have HK3 := Lib.hid hK3
      clear hK3 HK2
      go_wp2
      have hlw : ∀ i (h : i < (first16 m).length), cs[i]? = some (W (first16 m)[i]) := fun i hi => by
        have hi16 : i < 16 := by simpa [first16] using hi
        rw [HW.out i hi16]
        simp [first16]
      have HLW := Lib.hid hlw
      clear hlw d1 d2 hlt2 HW hlt4
      go_loopw [11] (fun i wr => ∃ n : Nat, 16 ≤ n ∧ n ≤ 64 ∧ i = .int .i64 n ∧ Ex wb w5 wr ∧ ∃ cs, Blk wr wb 52 cs ∧ cs.size = 64 ∧ ∀ i (h : i < (growW (n - 16) (first16 m)).length), cs[i]? = some (W (growW (n - 16) (first16 m))[i])) (fun i _ => 64 - (intOf i).toNat)
      case atStart => exact ⟨16, Nat.le_refl _, by decide, rfl, HX.out, cs, HCS.out, HC64.out, HLW.out⟩
      case round =>
        clear HX HCS HC64 HLW
        obtain ⟨n, hn1, hn2, rfl, hx, cs, hcs, hc64, hw⟩ := hrel
        have HX := Lib.hid hx
        have HCS := Lib.hid hcs
        have HC64 := Lib.hid hc64
        have HWW := Lib.hid hw
        clear hx hcs hc64 hw
        by_cases hlt5 : n < 64
        · have hll : (growW (n - 16) (first16 m)).length = n := by rw [growW_length, first16, List.length_map, List.length_range]; omega
          have hgr : growW (n + 1 - 16) (first16 m) = growW (n - 16) (first16 m) ++ [nextW (growW (n - 16) (first16 m))] := by
            rw [show n + 1 - 16 = (n - 16) + 1 by omega]
            rfl
          have hw := HWW.out
          generalize growW (n - 16) (first16 m) = l5 at *
          have hwd : ∀ i, i < n → wr.cell? ⟨wb, i, none⟩ = some (W (l5.getD i 0)) := fun i hi => by
            rw [HCS.out.cell, hw i (by omega)]
            simp [List.getD, show i < l5.length by omega]
          obtain ⟨n15, hn15⟩ : ∃ n15, n15 = n - 15 := ⟨_, rfl⟩
          obtain ⟨n2, hn2'⟩ : ∃ n2, n2 = n - 2 := ⟨_, rfl⟩
          obtain ⟨n16, hn16⟩ : ∃ n16, n16 = n - 16 := ⟨_, rfl⟩
          obtain ⟨n7, hn7⟩ : ∃ n7, n7 = n - 7 := ⟨_, rfl⟩
          have p15 := hwd n15 (by omega)
          have p2 := hwd n2 (by omega)
          have p16 := hwd n16 (by omega)
          have p7 := hwd n7 (by omega)
          have hnx := nextW_alt l5
          rw [hll, ← hn15, ← hn2', ← hn16, ← hn7] at hnx
          generalize l5.getD n15 0 = x15 at *
          generalize l5.getD n2 0 = x2 at *
          generalize l5.getD n16 0 = x16 at *
          generalize l5.getD n7 0 = x7 at *
          have HN15 := Lib.hid hn15
          have HN2 := Lib.hid hn2'
          have HN16 := Lib.hid hn16
          have HN7 := Lib.hid hn7
          have P15 := Lib.hid p15
          have P2 := Lib.hid p2
          have P16 := Lib.hid p16
          have P7 := Lib.hid p7
          have HNX := Lib.hid hnx
          have HLL5 := Lib.hid hll
          have HGR := Lib.hid hgr
          have HDR := Lib.hid (DR.drew wr)
          have hn64 : (n : Int) < 64 := by omega
          have b15 : (n15 : Int) < 64 := by omega
          have b2 : (n2 : Int) < 64 := by omega
          have b16 : (n16 : Int) < 64 := by omega
          have b7 : (n7 : Int) < 64 := by omega
          have HNA : Hid (16 ≤ n ∧ n < 64) := ⟨hn1, hlt5⟩
          have HWW2 := Lib.hid hw
          have s1 := run_xor
          have s3 : ∀ x w, (binOp .shr 52 (W x) (.int .u64 3)).run Tryd.prog w = .ok (W (x >>> 3)) w := fun x w => run_shr 52 x 3 (by decide) w
          have s4 : ∀ x w, (binOp .shr 52 (W x) (.int .u64 10)).run Tryd.prog w = .ok (W (x >>> 10)) w := fun x w => run_shr 52 x 10 (by decide) w
          have s5 := run_add
          clear hw hwd hn15 hn2' hn16 hn7 p15 p2 p16 p7 hnx hll hgr HWW
          go_wp2
          refine wp_region_pre (by kernel_rfl) (R := DR) DR.refl (fun _ _ _ h k => h.trans k) 21 [[9], [11], [115], [114, 116], [117], [118], [9], [11], [121], [120, 122], [123], [124], [119, 125], [9], [11], [128], [127, 129], [130], [131], [126, 132], [133]]
            [(114, .slice (some ⟨wb, 0, none⟩) 64 64), (115, .int .i64 (n : Int)), (116, .int .i64 (n15 : Int)), (117, .pointer (some ⟨wb, n15, none⟩)), (118, W x15), (119, W (rotr (x15) 7)), (120, .slice (some ⟨wb, 0, none⟩) 64 64), (121, .int .i64 (n : Int)), (122, .int .i64 (n15 : Int)), (123, .pointer (some ⟨wb, n15, none⟩)), (124, W x15), (125, W (rotr (x15) 18)), (126, W ((rotr (x15) 7) ^^^ (rotr (x15) 18))), (127, .slice (some ⟨wb, 0, none⟩) 64 64), (128, .int .i64 (n : Int)), (129, .int .i64 (n15 : Int)), (130, .pointer (some ⟨wb, n15, none⟩)), (131, W x15), (132, W (x15 >>> 3)), (133, W (((rotr (x15) 7) ^^^ (rotr (x15) 18)) ^^^ (x15 >>> 3))), (12, W (((rotr (x15) 7) ^^^ (rotr (x15) 18)) ^^^ (x15 >>> 3)))]
            374 rfl (by decide) (by kernel_rfl) (by kernel_rfl) (by simp) (by kernel_rfl) (by kernel_rfl) ?_ ?_
          · refine ⟨?_, ?_, ?_, ?_, ?_, ?_, ?_, ?_, ?_, ?_, ?_, ?_, ?_, ?_, ?_, ?_, ?_, ?_, ?_, ?_, ?_, trivial⟩
            · as_aux_lemma =>
              refine UpOb.plain rfl fun a W1 hR hl K hK => ?_
              have hD : DR wr W1 := HDR.out.trans hR
              have h9 : a.tmps.getD 9 undef = (.slice (some ⟨wb, 0, none⟩) 64 64) := hl 9 (by decide)
              replace hK : ∀ v W2, DR W1 W2 → v = (.slice (some ⟨wb, 0, none⟩) 64 64) → K (a.put (some 114) v) W2 := fun v W2 h1 h2 => hK v W2 h1 (fun d hd => by cases hd; exact h2)
              clear hl
              simp only [Array.getD_eq_getD_getElem?] at h9
              go_simp
              exact hK _ W1 (DR.refl W1) rfl
            · as_aux_lemma =>
              refine UpOb.plain rfl fun a W1 hR hl K hK => ?_
              have hD : DR wr W1 := HDR.out.trans hR
              have h11 : a.tmps.getD 11 undef = (.int .i64 (n : Int)) := hl 11 (by decide)
              replace hK : ∀ v W2, DR W1 W2 → v = (.int .i64 (n : Int)) → K (a.put (some 115) v) W2 := fun v W2 h1 h2 => hK v W2 h1 (fun d hd => by cases hd; exact h2)
              clear hl
              simp only [Array.getD_eq_getD_getElem?] at h11
              go_simp
              exact hK _ W1 (DR.refl W1) rfl
            · as_aux_lemma =>
              refine UpOb.plain rfl fun a W1 hR hl K hK => ?_
              have hD : DR wr W1 := HDR.out.trans hR
              have h115 : a.tmps.getD 115 undef = (.int .i64 (n : Int)) := hl 115 (by decide)
              replace hK : ∀ v W2, DR W1 W2 → v = (.int .i64 (n15 : Int)) → K (a.put (some 116) v) W2 := fun v W2 h1 h2 => hK v W2 h1 (fun d hd => by cases hd; exact h2)
              clear hl
              simp only [Array.getD_eq_getD_getElem?] at h115
              go_simp
              have := HN15.out
              have := HNA.out.1
              have := HNA.out.2
              exact hK _ W1 (DR.refl W1) (congrArg (Value.int .i64) (by rw [IntWalk.i64_in] <;> omega))
            · as_aux_lemma =>
              refine UpOb.plain rfl fun a W1 hR hl K hK => ?_
              have hD : DR wr W1 := HDR.out.trans hR
              have h114 : a.tmps.getD 114 undef = (.slice (some ⟨wb, 0, none⟩) 64 64) := hl 114 (by decide)
              have h116 : a.tmps.getD 116 undef = (.int .i64 (n15 : Int)) := hl 116 (by decide)
              replace hK : ∀ v W2, DR W1 W2 → v = (.pointer (some ⟨wb, n15, none⟩)) → K (a.put (some 117) v) W2 := fun v W2 h1 h2 => hK v W2 h1 (fun d hd => by cases hd; exact h2)
              clear hl
              simp only [Array.getD_eq_getD_getElem?] at h114 h116
              go_simp
              exact hK _ W1 (DR.refl W1) rfl
            · as_aux_lemma =>
              refine UpOb.plain rfl fun a W1 hR hl K hK => ?_
              have hD : DR wr W1 := HDR.out.trans hR
              have h117 : a.tmps.getD 117 undef = (.pointer (some ⟨wb, n15, none⟩)) := hl 117 (by decide)
              replace hK : ∀ v W2, DR W1 W2 → v = (W x15) → K (a.put (some 118) v) W2 := fun v W2 h1 h2 => hK v W2 h1 (fun d hd => by cases hd; exact h2)
              clear hl
              have hc : W1.cell? ⟨wb, n15, none⟩ = some (W x15) := (hD.cell _).trans (P15.out)
              simp only [Array.getD_eq_getD_getElem?] at h117
              go_simp
              exact hK _ W1 (DR.refl W1) rfl
            · as_aux_lemma =>
              refine UpOb.plain rfl fun a W1 hR hl K hK => ?_
              have hD : DR wr W1 := HDR.out.trans hR
              have h118 : a.tmps.getD 118 undef = (W x15) := hl 118 (by decide)
              replace hK : ∀ v W2, DR W1 W2 → v = (W (rotr (x15) 7)) → K (a.put (some 119) v) W2 := fun v W2 h1 h2 => hK v W2 h1 (fun d hd => by cases hd; exact h2)
              clear hl
              have hs := rotr_one (x15) 7 (by decide) (by decide) W1
              simp only [Array.getD_eq_getD_getElem?] at h118
              go_simp
              refine hs.mono ?_
              rintro e W2 ⟨rfl, N, rfl⟩
              exact hK _ _ ⟨N, rfl⟩ rfl
            · as_aux_lemma =>
              refine UpOb.plain rfl fun a W1 hR hl K hK => ?_
              have hD : DR wr W1 := HDR.out.trans hR
              have h9 : a.tmps.getD 9 undef = (.slice (some ⟨wb, 0, none⟩) 64 64) := hl 9 (by decide)
              replace hK : ∀ v W2, DR W1 W2 → v = (.slice (some ⟨wb, 0, none⟩) 64 64) → K (a.put (some 120) v) W2 := fun v W2 h1 h2 => hK v W2 h1 (fun d hd => by cases hd; exact h2)
              clear hl
              simp only [Array.getD_eq_getD_getElem?] at h9
              go_simp
              exact hK _ W1 (DR.refl W1) rfl
            · as_aux_lemma =>
              refine UpOb.plain rfl fun a W1 hR hl K hK => ?_
              have hD : DR wr W1 := HDR.out.trans hR
              have h11 : a.tmps.getD 11 undef = (.int .i64 (n : Int)) := hl 11 (by decide)
              replace hK : ∀ v W2, DR W1 W2 → v = (.int .i64 (n : Int)) → K (a.put (some 121) v) W2 := fun v W2 h1 h2 => hK v W2 h1 (fun d hd => by cases hd; exact h2)
              clear hl
              simp only [Array.getD_eq_getD_getElem?] at h11
              go_simp
              exact hK _ W1 (DR.refl W1) rfl
            · as_aux_lemma =>
              refine UpOb.plain rfl fun a W1 hR hl K hK => ?_
              have hD : DR wr W1 := HDR.out.trans hR
              have h121 : a.tmps.getD 121 undef = (.int .i64 (n : Int)) := hl 121 (by decide)
              replace hK : ∀ v W2, DR W1 W2 → v = (.int .i64 (n15 : Int)) → K (a.put (some 122) v) W2 := fun v W2 h1 h2 => hK v W2 h1 (fun d hd => by cases hd; exact h2)
              clear hl
              simp only [Array.getD_eq_getD_getElem?] at h121
              go_simp
              have := HN15.out
              have := HNA.out.1
              have := HNA.out.2
              exact hK _ W1 (DR.refl W1) (congrArg (Value.int .i64) (by rw [IntWalk.i64_in] <;> omega))
            · as_aux_lemma =>
              refine UpOb.plain rfl fun a W1 hR hl K hK => ?_
              have hD : DR wr W1 := HDR.out.trans hR
              have h120 : a.tmps.getD 120 undef = (.slice (some ⟨wb, 0, none⟩) 64 64) := hl 120 (by decide)
              have h122 : a.tmps.getD 122 undef = (.int .i64 (n15 : Int)) := hl 122 (by decide)
              replace hK : ∀ v W2, DR W1 W2 → v = (.pointer (some ⟨wb, n15, none⟩)) → K (a.put (some 123) v) W2 := fun v W2 h1 h2 => hK v W2 h1 (fun d hd => by cases hd; exact h2)
              clear hl
              simp only [Array.getD_eq_getD_getElem?] at h120 h122
              go_simp
              exact hK _ W1 (DR.refl W1) rfl
            · as_aux_lemma =>
              refine UpOb.plain rfl fun a W1 hR hl K hK => ?_
              have hD : DR wr W1 := HDR.out.trans hR
              have h123 : a.tmps.getD 123 undef = (.pointer (some ⟨wb, n15, none⟩)) := hl 123 (by decide)
              replace hK : ∀ v W2, DR W1 W2 → v = (W x15) → K (a.put (some 124) v) W2 := fun v W2 h1 h2 => hK v W2 h1 (fun d hd => by cases hd; exact h2)
              clear hl
              have hc : W1.cell? ⟨wb, n15, none⟩ = some (W x15) := (hD.cell _).trans (P15.out)
              simp only [Array.getD_eq_getD_getElem?] at h123
              go_simp
              exact hK _ W1 (DR.refl W1) rfl
            · as_aux_lemma =>
              refine UpOb.plain rfl fun a W1 hR hl K hK => ?_
              have hD : DR wr W1 := HDR.out.trans hR
              have h124 : a.tmps.getD 124 undef = (W x15) := hl 124 (by decide)
              replace hK : ∀ v W2, DR W1 W2 → v = (W (rotr (x15) 18)) → K (a.put (some 125) v) W2 := fun v W2 h1 h2 => hK v W2 h1 (fun d hd => by cases hd; exact h2)
              clear hl
              have hs := rotr_one (x15) 18 (by decide) (by decide) W1
              simp only [Array.getD_eq_getD_getElem?] at h124
              go_simp
              refine hs.mono ?_
              rintro e W2 ⟨rfl, N, rfl⟩
              exact hK _ _ ⟨N, rfl⟩ rfl
            · as_aux_lemma =>
              refine UpOb.plain rfl fun a W1 hR hl K hK => ?_
              have hD : DR wr W1 := HDR.out.trans hR
              have h119 : a.tmps.getD 119 undef = (W (rotr (x15) 7)) := hl 119 (by decide)
              have h125 : a.tmps.getD 125 undef = (W (rotr (x15) 18)) := hl 125 (by decide)
              replace hK : ∀ v W2, DR W1 W2 → v = (W ((rotr (x15) 7) ^^^ (rotr (x15) 18))) → K (a.put (some 126) v) W2 := fun v W2 h1 h2 => hK v W2 h1 (fun d hd => by cases hd; exact h2)
              clear hl
              simp only [Array.getD_eq_getD_getElem?] at h119 h125
              go_simp
              exact hK _ W1 (DR.refl W1) rfl
            · as_aux_lemma =>
              refine UpOb.plain rfl fun a W1 hR hl K hK => ?_
              have hD : DR wr W1 := HDR.out.trans hR
              have h9 : a.tmps.getD 9 undef = (.slice (some ⟨wb, 0, none⟩) 64 64) := hl 9 (by decide)
              replace hK : ∀ v W2, DR W1 W2 → v = (.slice (some ⟨wb, 0, none⟩) 64 64) → K (a.put (some 127) v) W2 := fun v W2 h1 h2 => hK v W2 h1 (fun d hd => by cases hd; exact h2)
              clear hl
              simp only [Array.getD_eq_getD_getElem?] at h9
              go_simp
              exact hK _ W1 (DR.refl W1) rfl
            · as_aux_lemma =>
              refine UpOb.plain rfl fun a W1 hR hl K hK => ?_
              have hD : DR wr W1 := HDR.out.trans hR
              have h11 : a.tmps.getD 11 undef = (.int .i64 (n : Int)) := hl 11 (by decide)
              replace hK : ∀ v W2, DR W1 W2 → v = (.int .i64 (n : Int)) → K (a.put (some 128) v) W2 := fun v W2 h1 h2 => hK v W2 h1 (fun d hd => by cases hd; exact h2)
              clear hl
              simp only [Array.getD_eq_getD_getElem?] at h11
              go_simp
              exact hK _ W1 (DR.refl W1) rfl
            · as_aux_lemma =>
              refine UpOb.plain rfl fun a W1 hR hl K hK => ?_
              have hD : DR wr W1 := HDR.out.trans hR
              have h128 : a.tmps.getD 128 undef = (.int .i64 (n : Int)) := hl 128 (by decide)
              replace hK : ∀ v W2, DR W1 W2 → v = (.int .i64 (n15 : Int)) → K (a.put (some 129) v) W2 := fun v W2 h1 h2 => hK v W2 h1 (fun d hd => by cases hd; exact h2)
              clear hl
              simp only [Array.getD_eq_getD_getElem?] at h128
              go_simp
              have := HN15.out
              have := HNA.out.1
              have := HNA.out.2
              exact hK _ W1 (DR.refl W1) (congrArg (Value.int .i64) (by rw [IntWalk.i64_in] <;> omega))
            · as_aux_lemma =>
              refine UpOb.plain rfl fun a W1 hR hl K hK => ?_
              have hD : DR wr W1 := HDR.out.trans hR
              have h127 : a.tmps.getD 127 undef = (.slice (some ⟨wb, 0, none⟩) 64 64) := hl 127 (by decide)
              have h129 : a.tmps.getD 129 undef = (.int .i64 (n15 : Int)) := hl 129 (by decide)
              replace hK : ∀ v W2, DR W1 W2 → v = (.pointer (some ⟨wb, n15, none⟩)) → K (a.put (some 130) v) W2 := fun v W2 h1 h2 => hK v W2 h1 (fun d hd => by cases hd; exact h2)
              clear hl
              simp only [Array.getD_eq_getD_getElem?] at h127 h129
              go_simp
              exact hK _ W1 (DR.refl W1) rfl
            · as_aux_lemma =>
              refine UpOb.plain rfl fun a W1 hR hl K hK => ?_
              have hD : DR wr W1 := HDR.out.trans hR
              have h130 : a.tmps.getD 130 undef = (.pointer (some ⟨wb, n15, none⟩)) := hl 130 (by decide)
              replace hK : ∀ v W2, DR W1 W2 → v = (W x15) → K (a.put (some 131) v) W2 := fun v W2 h1 h2 => hK v W2 h1 (fun d hd => by cases hd; exact h2)
              clear hl
              have hc : W1.cell? ⟨wb, n15, none⟩ = some (W x15) := (hD.cell _).trans (P15.out)
              simp only [Array.getD_eq_getD_getElem?] at h130
              go_simp
              exact hK _ W1 (DR.refl W1) rfl
            · as_aux_lemma =>
              refine UpOb.plain rfl fun a W1 hR hl K hK => ?_
              have hD : DR wr W1 := HDR.out.trans hR
              have h131 : a.tmps.getD 131 undef = (W x15) := hl 131 (by decide)
              replace hK : ∀ v W2, DR W1 W2 → v = (W (x15 >>> 3)) → K (a.put (some 132) v) W2 := fun v W2 h1 h2 => hK v W2 h1 (fun d hd => by cases hd; exact h2)
              clear hl
              simp only [Array.getD_eq_getD_getElem?] at h131
              go_simp
              exact hK _ W1 (DR.refl W1) rfl
            · as_aux_lemma =>
              refine UpOb.plain rfl fun a W1 hR hl K hK => ?_
              have hD : DR wr W1 := HDR.out.trans hR
              have h126 : a.tmps.getD 126 undef = (W ((rotr (x15) 7) ^^^ (rotr (x15) 18))) := hl 126 (by decide)
              have h132 : a.tmps.getD 132 undef = (W (x15 >>> 3)) := hl 132 (by decide)
              replace hK : ∀ v W2, DR W1 W2 → v = (W (((rotr (x15) 7) ^^^ (rotr (x15) 18)) ^^^ (x15 >>> 3))) → K (a.put (some 133) v) W2 := fun v W2 h1 h2 => hK v W2 h1 (fun d hd => by cases hd; exact h2)
              clear hl
              simp only [Array.getD_eq_getD_getElem?] at h126 h132
              go_simp
              exact hK _ W1 (DR.refl W1) rfl
            · as_aux_lemma =>
              refine UpOb.plain rfl fun a W1 hR hl K hK => ?_
              have hD : DR wr W1 := HDR.out.trans hR
              have h133 : a.tmps.getD 133 undef = (W (((rotr (x15) 7) ^^^ (rotr (x15) 18)) ^^^ (x15 >>> 3))) := hl 133 (by decide)
              replace hK : ∀ v W2, DR W1 W2 → v = (W (((rotr (x15) 7) ^^^ (rotr (x15) 18)) ^^^ (x15 >>> 3))) → K (a.put (some 12) v) W2 := fun v W2 h1 h2 => hK v W2 h1 (fun d hd => by cases hd; exact h2)
              clear hl
              simp only [Array.getD_eq_getD_getElem?] at h133
              go_simp
              exact hK _ W1 (DR.refl W1) rfl
          · intro W23 hW
            replace hW : DR wr W23 := HDR.out.trans hW
            have HW23 := Lib.hid hW
            clear hW
            simp only [filled, List.foldl, List.setIfInBounds_toArray, List.set, List.drop_succ_cons, List.drop_zero]
            go_wp2
            have HDR := Lib.hid (HW23.out.trans (DR.drew W23))
            refine wp_region_pre (by kernel_rfl) (R := DR) DR.refl (fun _ _ _ h k => h.trans k) 21 [[9], [11], [135], [134, 136], [137], [138], [9], [11], [141], [140, 142], [143], [144], [139, 145], [9], [11], [148], [147, 149], [150], [151], [146, 152], [153]]
              [(134, .slice (some ⟨wb, 0, none⟩) 64 64), (135, .int .i64 (n : Int)), (136, .int .i64 (n2 : Int)), (137, .pointer (some ⟨wb, n2, none⟩)), (138, W x2), (139, W (rotr (x2) 17)), (140, .slice (some ⟨wb, 0, none⟩) 64 64), (141, .int .i64 (n : Int)), (142, .int .i64 (n2 : Int)), (143, .pointer (some ⟨wb, n2, none⟩)), (144, W x2), (145, W (rotr (x2) 19)), (146, W ((rotr (x2) 17) ^^^ (rotr (x2) 19))), (147, .slice (some ⟨wb, 0, none⟩) 64 64), (148, .int .i64 (n : Int)), (149, .int .i64 (n2 : Int)), (150, .pointer (some ⟨wb, n2, none⟩)), (151, W x2), (152, W (x2 >>> 10)), (153, W (((rotr (x2) 17) ^^^ (rotr (x2) 19)) ^^^ (x2 >>> 10))), (13, W (((rotr (x2) 17) ^^^ (rotr (x2) 19)) ^^^ (x2 >>> 10)))]
              374 rfl (by decide) (by kernel_rfl) (by kernel_rfl) (by simp) (by kernel_rfl) (by kernel_rfl) ?_ ?_
            · refine ⟨?_, ?_, ?_, ?_, ?_, ?_, ?_, ?_, ?_, ?_, ?_, ?_, ?_, ?_, ?_, ?_, ?_, ?_, ?_, ?_, ?_, trivial⟩
              · as_aux_lemma =>
                refine UpOb.plain rfl fun a W1 hR hl K hK => ?_
                have hD : DR wr W1 := HDR.out.trans hR
                have h9 : a.tmps.getD 9 undef = (.slice (some ⟨wb, 0, none⟩) 64 64) := hl 9 (by decide)
                replace hK : ∀ v W2, DR W1 W2 → v = (.slice (some ⟨wb, 0, none⟩) 64 64) → K (a.put (some 134) v) W2 := fun v W2 h1 h2 => hK v W2 h1 (fun d hd => by cases hd; exact h2)
                clear hl
                simp only [Array.getD_eq_getD_getElem?] at h9
                go_simp
                exact hK _ W1 (DR.refl W1) rfl
              · as_aux_lemma =>
                refine UpOb.plain rfl fun a W1 hR hl K hK => ?_
                have hD : DR wr W1 := HDR.out.trans hR
                have h11 : a.tmps.getD 11 undef = (.int .i64 (n : Int)) := hl 11 (by decide)
                replace hK : ∀ v W2, DR W1 W2 → v = (.int .i64 (n : Int)) → K (a.put (some 135) v) W2 := fun v W2 h1 h2 => hK v W2 h1 (fun d hd => by cases hd; exact h2)
                clear hl
                simp only [Array.getD_eq_getD_getElem?] at h11
                go_simp
                exact hK _ W1 (DR.refl W1) rfl
              · as_aux_lemma =>
                refine UpOb.plain rfl fun a W1 hR hl K hK => ?_
                have hD : DR wr W1 := HDR.out.trans hR
                have h135 : a.tmps.getD 135 undef = (.int .i64 (n : Int)) := hl 135 (by decide)
                replace hK : ∀ v W2, DR W1 W2 → v = (.int .i64 (n2 : Int)) → K (a.put (some 136) v) W2 := fun v W2 h1 h2 => hK v W2 h1 (fun d hd => by cases hd; exact h2)
                clear hl
                simp only [Array.getD_eq_getD_getElem?] at h135
                go_simp
                have := HN2.out
                have := HNA.out.1
                have := HNA.out.2
                exact hK _ W1 (DR.refl W1) (congrArg (Value.int .i64) (by rw [IntWalk.i64_in] <;> omega))
              · as_aux_lemma =>
                refine UpOb.plain rfl fun a W1 hR hl K hK => ?_
                have hD : DR wr W1 := HDR.out.trans hR
                have h134 : a.tmps.getD 134 undef = (.slice (some ⟨wb, 0, none⟩) 64 64) := hl 134 (by decide)
                have h136 : a.tmps.getD 136 undef = (.int .i64 (n2 : Int)) := hl 136 (by decide)
                replace hK : ∀ v W2, DR W1 W2 → v = (.pointer (some ⟨wb, n2, none⟩)) → K (a.put (some 137) v) W2 := fun v W2 h1 h2 => hK v W2 h1 (fun d hd => by cases hd; exact h2)
                clear hl
                simp only [Array.getD_eq_getD_getElem?] at h134 h136
                go_simp
                exact hK _ W1 (DR.refl W1) rfl
              · as_aux_lemma =>
                refine UpOb.plain rfl fun a W1 hR hl K hK => ?_
                have hD : DR wr W1 := HDR.out.trans hR
                have h137 : a.tmps.getD 137 undef = (.pointer (some ⟨wb, n2, none⟩)) := hl 137 (by decide)
                replace hK : ∀ v W2, DR W1 W2 → v = (W x2) → K (a.put (some 138) v) W2 := fun v W2 h1 h2 => hK v W2 h1 (fun d hd => by cases hd; exact h2)
                clear hl
                have hc : W1.cell? ⟨wb, n2, none⟩ = some (W x2) := (hD.cell _).trans (P2.out)
                simp only [Array.getD_eq_getD_getElem?] at h137
                go_simp
                exact hK _ W1 (DR.refl W1) rfl
              · as_aux_lemma =>
                refine UpOb.plain rfl fun a W1 hR hl K hK => ?_
                have hD : DR wr W1 := HDR.out.trans hR
                have h138 : a.tmps.getD 138 undef = (W x2) := hl 138 (by decide)
                replace hK : ∀ v W2, DR W1 W2 → v = (W (rotr (x2) 17)) → K (a.put (some 139) v) W2 := fun v W2 h1 h2 => hK v W2 h1 (fun d hd => by cases hd; exact h2)
                clear hl
                have hs := rotr_one (x2) 17 (by decide) (by decide) W1
                simp only [Array.getD_eq_getD_getElem?] at h138
                go_simp
                refine hs.mono ?_
                rintro e W2 ⟨rfl, N, rfl⟩
                exact hK _ _ ⟨N, rfl⟩ rfl
              · as_aux_lemma =>
                refine UpOb.plain rfl fun a W1 hR hl K hK => ?_
                have hD : DR wr W1 := HDR.out.trans hR
                have h9 : a.tmps.getD 9 undef = (.slice (some ⟨wb, 0, none⟩) 64 64) := hl 9 (by decide)
                replace hK : ∀ v W2, DR W1 W2 → v = (.slice (some ⟨wb, 0, none⟩) 64 64) → K (a.put (some 140) v) W2 := fun v W2 h1 h2 => hK v W2 h1 (fun d hd => by cases hd; exact h2)
                clear hl
                simp only [Array.getD_eq_getD_getElem?] at h9
                go_simp
                exact hK _ W1 (DR.refl W1) rfl
              · as_aux_lemma =>
                refine UpOb.plain rfl fun a W1 hR hl K hK => ?_
                have hD : DR wr W1 := HDR.out.trans hR
                have h11 : a.tmps.getD 11 undef = (.int .i64 (n : Int)) := hl 11 (by decide)
                replace hK : ∀ v W2, DR W1 W2 → v = (.int .i64 (n : Int)) → K (a.put (some 141) v) W2 := fun v W2 h1 h2 => hK v W2 h1 (fun d hd => by cases hd; exact h2)
                clear hl
                simp only [Array.getD_eq_getD_getElem?] at h11
                go_simp
                exact hK _ W1 (DR.refl W1) rfl
              · as_aux_lemma =>
                refine UpOb.plain rfl fun a W1 hR hl K hK => ?_
                have hD : DR wr W1 := HDR.out.trans hR
                have h141 : a.tmps.getD 141 undef = (.int .i64 (n : Int)) := hl 141 (by decide)
                replace hK : ∀ v W2, DR W1 W2 → v = (.int .i64 (n2 : Int)) → K (a.put (some 142) v) W2 := fun v W2 h1 h2 => hK v W2 h1 (fun d hd => by cases hd; exact h2)
                clear hl
                simp only [Array.getD_eq_getD_getElem?] at h141
                go_simp
                have := HN2.out
                have := HNA.out.1
                have := HNA.out.2
                exact hK _ W1 (DR.refl W1) (congrArg (Value.int .i64) (by rw [IntWalk.i64_in] <;> omega))
              · as_aux_lemma =>
                refine UpOb.plain rfl fun a W1 hR hl K hK => ?_
                have hD : DR wr W1 := HDR.out.trans hR
                have h140 : a.tmps.getD 140 undef = (.slice (some ⟨wb, 0, none⟩) 64 64) := hl 140 (by decide)
                have h142 : a.tmps.getD 142 undef = (.int .i64 (n2 : Int)) := hl 142 (by decide)
                replace hK : ∀ v W2, DR W1 W2 → v = (.pointer (some ⟨wb, n2, none⟩)) → K (a.put (some 143) v) W2 := fun v W2 h1 h2 => hK v W2 h1 (fun d hd => by cases hd; exact h2)
                clear hl
                simp only [Array.getD_eq_getD_getElem?] at h140 h142
                go_simp
                exact hK _ W1 (DR.refl W1) rfl
              · as_aux_lemma =>
                refine UpOb.plain rfl fun a W1 hR hl K hK => ?_
                have hD : DR wr W1 := HDR.out.trans hR
                have h143 : a.tmps.getD 143 undef = (.pointer (some ⟨wb, n2, none⟩)) := hl 143 (by decide)
                replace hK : ∀ v W2, DR W1 W2 → v = (W x2) → K (a.put (some 144) v) W2 := fun v W2 h1 h2 => hK v W2 h1 (fun d hd => by cases hd; exact h2)
                clear hl
                have hc : W1.cell? ⟨wb, n2, none⟩ = some (W x2) := (hD.cell _).trans (P2.out)
                simp only [Array.getD_eq_getD_getElem?] at h143
                go_simp
                exact hK _ W1 (DR.refl W1) rfl
              · as_aux_lemma =>
                refine UpOb.plain rfl fun a W1 hR hl K hK => ?_
                have hD : DR wr W1 := HDR.out.trans hR
                have h144 : a.tmps.getD 144 undef = (W x2) := hl 144 (by decide)
                replace hK : ∀ v W2, DR W1 W2 → v = (W (rotr (x2) 19)) → K (a.put (some 145) v) W2 := fun v W2 h1 h2 => hK v W2 h1 (fun d hd => by cases hd; exact h2)
                clear hl
                have hs := rotr_one (x2) 19 (by decide) (by decide) W1
                simp only [Array.getD_eq_getD_getElem?] at h144
                go_simp
                refine hs.mono ?_
                rintro e W2 ⟨rfl, N, rfl⟩
                exact hK _ _ ⟨N, rfl⟩ rfl
              · as_aux_lemma =>
                refine UpOb.plain rfl fun a W1 hR hl K hK => ?_
                have hD : DR wr W1 := HDR.out.trans hR
                have h139 : a.tmps.getD 139 undef = (W (rotr (x2) 17)) := hl 139 (by decide)
                have h145 : a.tmps.getD 145 undef = (W (rotr (x2) 19)) := hl 145 (by decide)
                replace hK : ∀ v W2, DR W1 W2 → v = (W ((rotr (x2) 17) ^^^ (rotr (x2) 19))) → K (a.put (some 146) v) W2 := fun v W2 h1 h2 => hK v W2 h1 (fun d hd => by cases hd; exact h2)
                clear hl
                simp only [Array.getD_eq_getD_getElem?] at h139 h145
                go_simp
                exact hK _ W1 (DR.refl W1) rfl
              · as_aux_lemma =>
                refine UpOb.plain rfl fun a W1 hR hl K hK => ?_
                have hD : DR wr W1 := HDR.out.trans hR
                have h9 : a.tmps.getD 9 undef = (.slice (some ⟨wb, 0, none⟩) 64 64) := hl 9 (by decide)
                replace hK : ∀ v W2, DR W1 W2 → v = (.slice (some ⟨wb, 0, none⟩) 64 64) → K (a.put (some 147) v) W2 := fun v W2 h1 h2 => hK v W2 h1 (fun d hd => by cases hd; exact h2)
                clear hl
                simp only [Array.getD_eq_getD_getElem?] at h9
                go_simp
                exact hK _ W1 (DR.refl W1) rfl
              · as_aux_lemma =>
                refine UpOb.plain rfl fun a W1 hR hl K hK => ?_
                have hD : DR wr W1 := HDR.out.trans hR
                have h11 : a.tmps.getD 11 undef = (.int .i64 (n : Int)) := hl 11 (by decide)
                replace hK : ∀ v W2, DR W1 W2 → v = (.int .i64 (n : Int)) → K (a.put (some 148) v) W2 := fun v W2 h1 h2 => hK v W2 h1 (fun d hd => by cases hd; exact h2)
                clear hl
                simp only [Array.getD_eq_getD_getElem?] at h11
                go_simp
                exact hK _ W1 (DR.refl W1) rfl
              · as_aux_lemma =>
                refine UpOb.plain rfl fun a W1 hR hl K hK => ?_
                have hD : DR wr W1 := HDR.out.trans hR
                have h148 : a.tmps.getD 148 undef = (.int .i64 (n : Int)) := hl 148 (by decide)
                replace hK : ∀ v W2, DR W1 W2 → v = (.int .i64 (n2 : Int)) → K (a.put (some 149) v) W2 := fun v W2 h1 h2 => hK v W2 h1 (fun d hd => by cases hd; exact h2)
                clear hl
                simp only [Array.getD_eq_getD_getElem?] at h148
                go_simp
                have := HN2.out
                have := HNA.out.1
                have := HNA.out.2
                exact hK _ W1 (DR.refl W1) (congrArg (Value.int .i64) (by rw [IntWalk.i64_in] <;> omega))
              · as_aux_lemma =>
                refine UpOb.plain rfl fun a W1 hR hl K hK => ?_
                have hD : DR wr W1 := HDR.out.trans hR
                have h147 : a.tmps.getD 147 undef = (.slice (some ⟨wb, 0, none⟩) 64 64) := hl 147 (by decide)
                have h149 : a.tmps.getD 149 undef = (.int .i64 (n2 : Int)) := hl 149 (by decide)
                replace hK : ∀ v W2, DR W1 W2 → v = (.pointer (some ⟨wb, n2, none⟩)) → K (a.put (some 150) v) W2 := fun v W2 h1 h2 => hK v W2 h1 (fun d hd => by cases hd; exact h2)
                clear hl
                simp only [Array.getD_eq_getD_getElem?] at h147 h149
                go_simp
                exact hK _ W1 (DR.refl W1) rfl
              · as_aux_lemma =>
                refine UpOb.plain rfl fun a W1 hR hl K hK => ?_
                have hD : DR wr W1 := HDR.out.trans hR
                have h150 : a.tmps.getD 150 undef = (.pointer (some ⟨wb, n2, none⟩)) := hl 150 (by decide)
                replace hK : ∀ v W2, DR W1 W2 → v = (W x2) → K (a.put (some 151) v) W2 := fun v W2 h1 h2 => hK v W2 h1 (fun d hd => by cases hd; exact h2)
                clear hl
                have hc : W1.cell? ⟨wb, n2, none⟩ = some (W x2) := (hD.cell _).trans (P2.out)
                simp only [Array.getD_eq_getD_getElem?] at h150
                go_simp
                exact hK _ W1 (DR.refl W1) rfl
              · as_aux_lemma =>
                refine UpOb.plain rfl fun a W1 hR hl K hK => ?_
                have hD : DR wr W1 := HDR.out.trans hR
                have h151 : a.tmps.getD 151 undef = (W x2) := hl 151 (by decide)
                replace hK : ∀ v W2, DR W1 W2 → v = (W (x2 >>> 10)) → K (a.put (some 152) v) W2 := fun v W2 h1 h2 => hK v W2 h1 (fun d hd => by cases hd; exact h2)
                clear hl
                simp only [Array.getD_eq_getD_getElem?] at h151
                go_simp
                exact hK _ W1 (DR.refl W1) rfl
              · as_aux_lemma =>
                refine UpOb.plain rfl fun a W1 hR hl K hK => ?_
                have hD : DR wr W1 := HDR.out.trans hR
                have h146 : a.tmps.getD 146 undef = (W ((rotr (x2) 17) ^^^ (rotr (x2) 19))) := hl 146 (by decide)
                have h152 : a.tmps.getD 152 undef = (W (x2 >>> 10)) := hl 152 (by decide)
                replace hK : ∀ v W2, DR W1 W2 → v = (W (((rotr (x2) 17) ^^^ (rotr (x2) 19)) ^^^ (x2 >>> 10))) → K (a.put (some 153) v) W2 := fun v W2 h1 h2 => hK v W2 h1 (fun d hd => by cases hd; exact h2)
                clear hl
                simp only [Array.getD_eq_getD_getElem?] at h146 h152
                go_simp
                exact hK _ W1 (DR.refl W1) rfl
              · as_aux_lemma =>
                refine UpOb.plain rfl fun a W1 hR hl K hK => ?_
                have hD : DR wr W1 := HDR.out.trans hR
                have h153 : a.tmps.getD 153 undef = (W (((rotr (x2) 17) ^^^ (rotr (x2) 19)) ^^^ (x2 >>> 10))) := hl 153 (by decide)
                replace hK : ∀ v W2, DR W1 W2 → v = (W (((rotr (x2) 17) ^^^ (rotr (x2) 19)) ^^^ (x2 >>> 10))) → K (a.put (some 13) v) W2 := fun v W2 h1 h2 => hK v W2 h1 (fun d hd => by cases hd; exact h2)
                clear hl
                simp only [Array.getD_eq_getD_getElem?] at h153
                go_simp
                exact hK _ W1 (DR.refl W1) rfl
            · intro W24 hW
              replace hW : DR wr W24 := HDR.out.trans hW
              have HW24 := Lib.hid hW
              clear hW
              simp only [filled, List.foldl, List.setIfInBounds_toArray, List.set, List.drop_succ_cons, List.drop_zero]
              go_wp2
              have HDR := Lib.hid (HW24.out.trans (DR.drew W24))
              refine wp_region_pre (by kernel_rfl) (R := DR) DR.refl (fun _ _ _ h k => h.trans k) 18 [[9], [11], [9], [11], [157], [156, 158], [159], [12], [160, 161], [9], [11], [164], [163, 165], [166], [162, 167], [13], [168, 169], [154, 155]]
                [(154, .slice (some ⟨wb, 0, none⟩) 64 64), (155, .int .i64 (n : Int)), (156, .slice (some ⟨wb, 0, none⟩) 64 64), (157, .int .i64 (n : Int)), (158, .int .i64 (n16 : Int)), (159, .pointer (some ⟨wb, n16, none⟩)), (160, W x16), (161, W (((rotr (x15) 7) ^^^ (rotr (x15) 18)) ^^^ (x15 >>> 3))), (162, W (x16 + (((rotr (x15) 7) ^^^ (rotr (x15) 18)) ^^^ (x15 >>> 3)))), (163, .slice (some ⟨wb, 0, none⟩) 64 64), (164, .int .i64 (n : Int)), (165, .int .i64 (n7 : Int)), (166, .pointer (some ⟨wb, n7, none⟩)), (167, W x7), (168, W ((x16 + (((rotr (x15) 7) ^^^ (rotr (x15) 18)) ^^^ (x15 >>> 3))) + x7)), (169, W (((rotr (x2) 17) ^^^ (rotr (x2) 19)) ^^^ (x2 >>> 10))), (170, W (((x16 + (((rotr (x15) 7) ^^^ (rotr (x15) 18)) ^^^ (x15 >>> 3))) + x7) + (((rotr (x2) 17) ^^^ (rotr (x2) 19)) ^^^ (x2 >>> 10)))), (171, .pointer (some ⟨wb, n, none⟩))]
                374 rfl (by decide) (by kernel_rfl) (by kernel_rfl) (by simp) (by kernel_rfl) (by kernel_rfl) ?_ ?_
              · refine ⟨?_, ?_, ?_, ?_, ?_, ?_, ?_, ?_, ?_, ?_, ?_, ?_, ?_, ?_, ?_, ?_, ?_, ?_, trivial⟩
                · as_aux_lemma =>
                  refine UpOb.plain rfl fun a W1 hR hl K hK => ?_
                  have hD : DR wr W1 := HDR.out.trans hR
                  have h9 : a.tmps.getD 9 undef = (.slice (some ⟨wb, 0, none⟩) 64 64) := hl 9 (by decide)
                  replace hK : ∀ v W2, DR W1 W2 → v = (.slice (some ⟨wb, 0, none⟩) 64 64) → K (a.put (some 154) v) W2 := fun v W2 h1 h2 => hK v W2 h1 (fun d hd => by cases hd; exact h2)
                  clear hl
                  simp only [Array.getD_eq_getD_getElem?] at h9
                  go_simp
                  exact hK _ W1 (DR.refl W1) rfl
                · as_aux_lemma =>
                  refine UpOb.plain rfl fun a W1 hR hl K hK => ?_
                  have hD : DR wr W1 := HDR.out.trans hR
                  have h11 : a.tmps.getD 11 undef = (.int .i64 (n : Int)) := hl 11 (by decide)
                  replace hK : ∀ v W2, DR W1 W2 → v = (.int .i64 (n : Int)) → K (a.put (some 155) v) W2 := fun v W2 h1 h2 => hK v W2 h1 (fun d hd => by cases hd; exact h2)
                  clear hl
                  simp only [Array.getD_eq_getD_getElem?] at h11
                  go_simp
                  exact hK _ W1 (DR.refl W1) rfl
                · as_aux_lemma =>
                  refine UpOb.plain rfl fun a W1 hR hl K hK => ?_
                  have hD : DR wr W1 := HDR.out.trans hR
                  have h9 : a.tmps.getD 9 undef = (.slice (some ⟨wb, 0, none⟩) 64 64) := hl 9 (by decide)
                  replace hK : ∀ v W2, DR W1 W2 → v = (.slice (some ⟨wb, 0, none⟩) 64 64) → K (a.put (some 156) v) W2 := fun v W2 h1 h2 => hK v W2 h1 (fun d hd => by cases hd; exact h2)
                  clear hl
                  simp only [Array.getD_eq_getD_getElem?] at h9
                  go_simp
                  exact hK _ W1 (DR.refl W1) rfl
                · as_aux_lemma =>
                  refine UpOb.plain rfl fun a W1 hR hl K hK => ?_
                  have hD : DR wr W1 := HDR.out.trans hR
                  have h11 : a.tmps.getD 11 undef = (.int .i64 (n : Int)) := hl 11 (by decide)
                  replace hK : ∀ v W2, DR W1 W2 → v = (.int .i64 (n : Int)) → K (a.put (some 157) v) W2 := fun v W2 h1 h2 => hK v W2 h1 (fun d hd => by cases hd; exact h2)
                  clear hl
                  simp only [Array.getD_eq_getD_getElem?] at h11
                  go_simp
                  exact hK _ W1 (DR.refl W1) rfl
                · as_aux_lemma =>
                  refine UpOb.plain rfl fun a W1 hR hl K hK => ?_
                  have hD : DR wr W1 := HDR.out.trans hR
                  have h157 : a.tmps.getD 157 undef = (.int .i64 (n : Int)) := hl 157 (by decide)
                  replace hK : ∀ v W2, DR W1 W2 → v = (.int .i64 (n16 : Int)) → K (a.put (some 158) v) W2 := fun v W2 h1 h2 => hK v W2 h1 (fun d hd => by cases hd; exact h2)
                  clear hl
                  simp only [Array.getD_eq_getD_getElem?] at h157
                  go_simp
                  have := HN16.out
                  have := HNA.out.1
                  have := HNA.out.2
                  exact hK _ W1 (DR.refl W1) (congrArg (Value.int .i64) (by rw [IntWalk.i64_in] <;> omega))
                · as_aux_lemma =>
                  refine UpOb.plain rfl fun a W1 hR hl K hK => ?_
                  have hD : DR wr W1 := HDR.out.trans hR
                  have h156 : a.tmps.getD 156 undef = (.slice (some ⟨wb, 0, none⟩) 64 64) := hl 156 (by decide)
                  have h158 : a.tmps.getD 158 undef = (.int .i64 (n16 : Int)) := hl 158 (by decide)
                  replace hK : ∀ v W2, DR W1 W2 → v = (.pointer (some ⟨wb, n16, none⟩)) → K (a.put (some 159) v) W2 := fun v W2 h1 h2 => hK v W2 h1 (fun d hd => by cases hd; exact h2)
                  clear hl
                  simp only [Array.getD_eq_getD_getElem?] at h156 h158
                  go_simp
                  exact hK _ W1 (DR.refl W1) rfl
                · as_aux_lemma =>
                  refine UpOb.plain rfl fun a W1 hR hl K hK => ?_
                  have hD : DR wr W1 := HDR.out.trans hR
                  have h159 : a.tmps.getD 159 undef = (.pointer (some ⟨wb, n16, none⟩)) := hl 159 (by decide)
                  replace hK : ∀ v W2, DR W1 W2 → v = (W x16) → K (a.put (some 160) v) W2 := fun v W2 h1 h2 => hK v W2 h1 (fun d hd => by cases hd; exact h2)
                  clear hl
                  have hc : W1.cell? ⟨wb, n16, none⟩ = some (W x16) := (hD.cell _).trans (P16.out)
                  simp only [Array.getD_eq_getD_getElem?] at h159
                  go_simp
                  exact hK _ W1 (DR.refl W1) rfl
                · as_aux_lemma =>
                  refine UpOb.plain rfl fun a W1 hR hl K hK => ?_
                  have hD : DR wr W1 := HDR.out.trans hR
                  have h12 : a.tmps.getD 12 undef = (W (((rotr (x15) 7) ^^^ (rotr (x15) 18)) ^^^ (x15 >>> 3))) := hl 12 (by decide)
                  replace hK : ∀ v W2, DR W1 W2 → v = (W (((rotr (x15) 7) ^^^ (rotr (x15) 18)) ^^^ (x15 >>> 3))) → K (a.put (some 161) v) W2 := fun v W2 h1 h2 => hK v W2 h1 (fun d hd => by cases hd; exact h2)
                  clear hl
                  simp only [Array.getD_eq_getD_getElem?] at h12
                  go_simp
                  exact hK _ W1 (DR.refl W1) rfl
                · as_aux_lemma =>
                  refine UpOb.plain rfl fun a W1 hR hl K hK => ?_
                  have hD : DR wr W1 := HDR.out.trans hR
                  have h160 : a.tmps.getD 160 undef = (W x16) := hl 160 (by decide)
                  have h161 : a.tmps.getD 161 undef = (W (((rotr (x15) 7) ^^^ (rotr (x15) 18)) ^^^ (x15 >>> 3))) := hl 161 (by decide)
                  replace hK : ∀ v W2, DR W1 W2 → v = (W (x16 + (((rotr (x15) 7) ^^^ (rotr (x15) 18)) ^^^ (x15 >>> 3)))) → K (a.put (some 162) v) W2 := fun v W2 h1 h2 => hK v W2 h1 (fun d hd => by cases hd; exact h2)
                  clear hl
                  simp only [Array.getD_eq_getD_getElem?] at h160 h161
                  go_simp
                  exact hK _ W1 (DR.refl W1) rfl
                · as_aux_lemma =>
                  refine UpOb.plain rfl fun a W1 hR hl K hK => ?_
                  have hD : DR wr W1 := HDR.out.trans hR
                  have h9 : a.tmps.getD 9 undef = (.slice (some ⟨wb, 0, none⟩) 64 64) := hl 9 (by decide)
                  replace hK : ∀ v W2, DR W1 W2 → v = (.slice (some ⟨wb, 0, none⟩) 64 64) → K (a.put (some 163) v) W2 := fun v W2 h1 h2 => hK v W2 h1 (fun d hd => by cases hd; exact h2)
                  clear hl
                  simp only [Array.getD_eq_getD_getElem?] at h9
                  go_simp
                  exact hK _ W1 (DR.refl W1) rfl
                · as_aux_lemma =>
                  refine UpOb.plain rfl fun a W1 hR hl K hK => ?_
                  have hD : DR wr W1 := HDR.out.trans hR
                  have h11 : a.tmps.getD 11 undef = (.int .i64 (n : Int)) := hl 11 (by decide)
                  replace hK : ∀ v W2, DR W1 W2 → v = (.int .i64 (n : Int)) → K (a.put (some 164) v) W2 := fun v W2 h1 h2 => hK v W2 h1 (fun d hd => by cases hd; exact h2)
                  clear hl
                  simp only [Array.getD_eq_getD_getElem?] at h11
                  go_simp
                  exact hK _ W1 (DR.refl W1) rfl
                · as_aux_lemma =>
                  refine UpOb.plain rfl fun a W1 hR hl K hK => ?_
                  have hD : DR wr W1 := HDR.out.trans hR
                  have h164 : a.tmps.getD 164 undef = (.int .i64 (n : Int)) := hl 164 (by decide)
                  replace hK : ∀ v W2, DR W1 W2 → v = (.int .i64 (n7 : Int)) → K (a.put (some 165) v) W2 := fun v W2 h1 h2 => hK v W2 h1 (fun d hd => by cases hd; exact h2)
                  clear hl
                  simp only [Array.getD_eq_getD_getElem?] at h164
                  go_simp
                  have := HN7.out
                  have := HNA.out.1
                  have := HNA.out.2
                  exact hK _ W1 (DR.refl W1) (congrArg (Value.int .i64) (by rw [IntWalk.i64_in] <;> omega))
                · as_aux_lemma =>
                  refine UpOb.plain rfl fun a W1 hR hl K hK => ?_
                  have hD : DR wr W1 := HDR.out.trans hR
                  have h163 : a.tmps.getD 163 undef = (.slice (some ⟨wb, 0, none⟩) 64 64) := hl 163 (by decide)
                  have h165 : a.tmps.getD 165 undef = (.int .i64 (n7 : Int)) := hl 165 (by decide)
                  replace hK : ∀ v W2, DR W1 W2 → v = (.pointer (some ⟨wb, n7, none⟩)) → K (a.put (some 166) v) W2 := fun v W2 h1 h2 => hK v W2 h1 (fun d hd => by cases hd; exact h2)
                  clear hl
                  simp only [Array.getD_eq_getD_getElem?] at h163 h165
                  go_simp
                  exact hK _ W1 (DR.refl W1) rfl
                · as_aux_lemma =>
                  refine UpOb.plain rfl fun a W1 hR hl K hK => ?_
                  have hD : DR wr W1 := HDR.out.trans hR
                  have h166 : a.tmps.getD 166 undef = (.pointer (some ⟨wb, n7, none⟩)) := hl 166 (by decide)
                  replace hK : ∀ v W2, DR W1 W2 → v = (W x7) → K (a.put (some 167) v) W2 := fun v W2 h1 h2 => hK v W2 h1 (fun d hd => by cases hd; exact h2)
                  clear hl
                  have hc : W1.cell? ⟨wb, n7, none⟩ = some (W x7) := (hD.cell _).trans (P7.out)
                  simp only [Array.getD_eq_getD_getElem?] at h166
                  go_simp
                  exact hK _ W1 (DR.refl W1) rfl
                · as_aux_lemma =>
                  refine UpOb.plain rfl fun a W1 hR hl K hK => ?_
                  have hD : DR wr W1 := HDR.out.trans hR
                  have h162 : a.tmps.getD 162 undef = (W (x16 + (((rotr (x15) 7) ^^^ (rotr (x15) 18)) ^^^ (x15 >>> 3)))) := hl 162 (by decide)
                  have h167 : a.tmps.getD 167 undef = (W x7) := hl 167 (by decide)
                  replace hK : ∀ v W2, DR W1 W2 → v = (W ((x16 + (((rotr (x15) 7) ^^^ (rotr (x15) 18)) ^^^ (x15 >>> 3))) + x7)) → K (a.put (some 168) v) W2 := fun v W2 h1 h2 => hK v W2 h1 (fun d hd => by cases hd; exact h2)
                  clear hl
                  simp only [Array.getD_eq_getD_getElem?] at h162 h167
                  go_simp
                  exact hK _ W1 (DR.refl W1) rfl
                · as_aux_lemma =>
                  refine UpOb.plain rfl fun a W1 hR hl K hK => ?_
                  have hD : DR wr W1 := HDR.out.trans hR
                  have h13 : a.tmps.getD 13 undef = (W (((rotr (x2) 17) ^^^ (rotr (x2) 19)) ^^^ (x2 >>> 10))) := hl 13 (by decide)
                  replace hK : ∀ v W2, DR W1 W2 → v = (W (((rotr (x2) 17) ^^^ (rotr (x2) 19)) ^^^ (x2 >>> 10))) → K (a.put (some 169) v) W2 := fun v W2 h1 h2 => hK v W2 h1 (fun d hd => by cases hd; exact h2)
                  clear hl
                  simp only [Array.getD_eq_getD_getElem?] at h13
                  go_simp
                  exact hK _ W1 (DR.refl W1) rfl
                · as_aux_lemma =>
                  refine UpOb.plain rfl fun a W1 hR hl K hK => ?_
                  have hD : DR wr W1 := HDR.out.trans hR
                  have h168 : a.tmps.getD 168 undef = (W ((x16 + (((rotr (x15) 7) ^^^ (rotr (x15) 18)) ^^^ (x15 >>> 3))) + x7)) := hl 168 (by decide)
                  have h169 : a.tmps.getD 169 undef = (W (((rotr (x2) 17) ^^^ (rotr (x2) 19)) ^^^ (x2 >>> 10))) := hl 169 (by decide)
                  replace hK : ∀ v W2, DR W1 W2 → v = (W (((x16 + (((rotr (x15) 7) ^^^ (rotr (x15) 18)) ^^^ (x15 >>> 3))) + x7) + (((rotr (x2) 17) ^^^ (rotr (x2) 19)) ^^^ (x2 >>> 10)))) → K (a.put (some 170) v) W2 := fun v W2 h1 h2 => hK v W2 h1 (fun d hd => by cases hd; exact h2)
                  clear hl
                  simp only [Array.getD_eq_getD_getElem?] at h168 h169
                  go_simp
                  exact hK _ W1 (DR.refl W1) rfl
                · as_aux_lemma =>
                  refine UpOb.plain rfl fun a W1 hR hl K hK => ?_
                  have hD : DR wr W1 := HDR.out.trans hR
                  have h154 : a.tmps.getD 154 undef = (.slice (some ⟨wb, 0, none⟩) 64 64) := hl 154 (by decide)
                  have h155 : a.tmps.getD 155 undef = (.int .i64 (n : Int)) := hl 155 (by decide)
                  replace hK : ∀ v W2, DR W1 W2 → v = (.pointer (some ⟨wb, n, none⟩)) → K (a.put (some 171) v) W2 := fun v W2 h1 h2 => hK v W2 h1 (fun d hd => by cases hd; exact h2)
                  clear hl
                  simp only [Array.getD_eq_getD_getElem?] at h154 h155
                  go_simp
                  exact hK _ W1 (DR.refl W1) rfl
              · intro W25 hW
                replace hW : DR wr W25 := HDR.out.trans hW
                have HW25 := Lib.hid hW
                clear hW
                simp only [filled, List.foldl, List.setIfInBounds_toArray, List.set, List.drop_succ_cons, List.drop_zero]
                have hbw : Blk W25 wb 52 cs := HW25.out.blk HCS.out
                have d1 := hbw.cell
                have d2 := hbw.thaw
                have d3 : cs[n]? = some (cs[n]'(by rw [HC64.out]; exact hlt5)) := by simp
                go_wp2
                go_roundw
                case rel =>
                  refine ⟨n + 1, by omega, by omega, by go_num, (HX.out.trans (HW25.out.ex wb)).trans (Ex.setCell wb n _ _), _, hbw.put n _, by rw [Array.size_setIfInBounds]; exact HC64.out, ?_⟩
                  rw [HGR.out]
                  intro i hi
                  by_cases e : i = n
                  · have e9 : (l5 ++ [nextW l5])[i] = nextW l5 := by
                      have := HLL5.out
                      rw [List.getElem_append_right (by omega)]
                      simp
                    rw [e9, e, Array.getElem?_setIfInBounds_self_of_lt (by rw [HC64.out]; exact hlt5), HNX.out]
                    rfl
                  · have hi2 : i < l5.length := by
                      have := HLL5.out
                      rw [List.length_append, List.length_singleton] at hi
                      omega
                    rw [Array.getElem?_setIfInBounds_ne (fun h => e h.symm), List.getElem_append_left hi2]
                    exact HWW2.out i hi2
                case measure => simp [intOf]; omega
        · obtain rfl : n = 64 := by omega
          have hsd : growW (64 - 16) (first16 m) = sched m := by unfold sched; rfl
          have hw64 := HWW.out
          have hl64 := sched_length m
          rw [hsd] at hw64
          clear hsd HWW
          generalize hS : sched m = S at *
          have HS' := Lib.hid hS
          have hsw : ∀ i, i < 64 → wr.cell? ⟨wb, i, none⟩ = some (W (S.getD i 0)) := fun i hi => by
            rw [HCS.out.cell, hw64 i (by omega)]
            simp [List.getD, show i < S.length by omega]
          clear hw64 hl64 hS
          have hwl := HWL.out
          have hhr : Blk wr hb 52 ((Bst M k).list.map W).toArray := HX.out.blk HHW.out (by omega)
          have hkr : Blk wr (hb + 1) 52 (kt.map W).toArray := HX.out.blk (HWX.out.blk HK3'.out (by omega)) (by omega)
          have hx3 : Ex hb w3 wr := by
            have a := HWX.out
            have b := HX.out
            exact ⟨b.os.trans a.os, b.tape.trans a.tape, b.output.trans a.output, Nat.le_trans a.size b.size, fun i hi hn => (b.block i (Nat.lt_of_lt_of_le hi a.size) (by have := HW3.out; omega)).trans (a.block i hi hn)⟩
          have HSW := Lib.hid hsw
          have HHR := Lib.hid hhr
          have HKR := Lib.hid hkr
          have HX3 := Lib.hid hx3
          clear hsw hhr hkr hx3 hwl
          go_wp2
          refine HK3.out _ _ ?_
          refine part26 hb wb (Bst M k) S wr _ _ _ _ _ _ _ _ _ _ _ _ _ _ _ _ _ _ _ _ _ _ _ _ _ _ _ _ _ _ _ _ _ _ _ _ _ _ _ _ _ _ _ _ _ _ _ _ _ _ _ _ _ _ _ _ _ _ _ _ _ _ _ _ _ _ _ _ _ _ _ _ _ _ _ _ _ _ _ _ _ _ _ _ _ _ _ _ _ _ _ _ _ _ _ _ _ _ _ _ _ _ _ _ _ _ _ _ _ _ _ _ _ _ _ _ _ _ _ _ _ _ _ _ _ _ _ _ _ _ _ _ _ _ _ _ _ _ _ _ _ _ _ _ _ _ _ _ _ _ _ _ _ _ _ _ _ _ _ _ _ _ _ _ _ _ _ _ _ _ _ _ _ _ _ _ _ _ _ _ _ _ _ _ _ _ _ _ _ _ _ _ _ _ _ _ _ _ _ _ _ _ _ _ _ _ _ _ _ _ _ _ _ _ _ _ _ _ _ _ _ _ _ _ _ _ _ _ _ _ _ _ _ _ _ _ _ _ _ _ _ _ _ _ _ _ _ _ _ _ _ _ _ _ _ _ _ _ _ _ _ _ _ _ _ _ _ _ _ _ _ _ _ _ _ _ _ _ _ _ _ _ _ _ _ _ _ _ _ _ _ _ _ _ _ _ _ _ _ _ _ _ _ _ _ _ _ _ _ _ _ _ _ _ _ _ _ _ _ _ _ _ _ _ _ _ _ _ _ _ _ _ _ _ _ _ _ _ _ _ _ _ _ _ _ _ _ _ _ _ _ _ _ _ _ _ _ _ _ _ _ _ _ _ _ _ _ _ _ _ _ _ HHR.out HKR.out HSW.out (fun c _ _ w e h => HPP.out c _ _ w e h) ?_
          intro _ _ _ _ _ _ _ _ _ _ _ _ _ _ _ _ _ _ _ _ _ _ _ _ _ _ _ _ _ _ _ _ _ _ _ _ _ _ _ _ _ _ _ _ _ _ _ _ _ _ _ _ _ _ _ _ _ _ _ _ _ _ _ _ _ _ _ _ _ _ _ _ _ _ _ _ _ _ _ _ _ _ _ _ _ _ _ _ _ _ _ _ _ _ _ _ _ _ _ _ _ _ _ _ _ _ _ _ _ _ _ _ _ _ _ _ _ _ _ _ _ _ _ _ _ _ _ _ _ _ _ _ _ _ _ _ _ _ _ _ _ _ _ _ _ _ _ _ _ _ _ _ _ _ _ _ _ _ _ _ _ _ _ _ _ _ _ _ w9 hE hB9
          have HE := Lib.hid hE
          have HB9 := Lib.hid hB9
          clear hE hB9
          go_wp2
          refine HQ.out _ _ _ _ _ _ _ _ _ _ _ _ _ _ _ _ _ _ _ _ _ _ _ _ _ _ _ _ _ _ _ _ _ _ _ _ _ _ _ _ _ _ _ _ _ _ _ _ _ _ _ _ _ _ _ _ _ _ _ _ _ _ _ _ _ _ _ _ _ _ _ _ _ _ _ _ _ _ _ _ _ _ _ _ _ _ _ _ _ _ _ _ _ _ _ _ _ _ _ _ _ _ _ _ _ _ _ _ _ _ _ _ _ _ _ _ _ _ _ _ _ _ _ _ _ _ _ _ _ _ _ _ _ _ _ _ _ _ _ _ _ _ _ _ _ _ _ _ _ _ _ _ _ _ _ _ _ _ _ _ _ _ _ _ _ _ _ _ _ _ _ _ _ _ _ _ _ _ _ _ _ _ _ _ _ _ _ _ _ _ _ _ _ _ _ _ _ _ _ _ _ _ _ _ _ _ _ _ _ _ _ _ _ _ _ _ _ _ _ _ _ _ _ _ _ _ _ _ _ _ _ _ _ _ _ _ _ _ _ _ _ _ _ _ _ _ _ _ _ _ _ _ _ _ _ _ _ _ _ _ _ _ _ _ _ _ _ _ _ _ _ _ _ _ _ _ _ _ _ _ _ _ _ _ w9 (HX3.out.trans HE.out) ?_
          have e9 : Bst M (k + 1) = (Bst M k).add ((Bst M k).turns S 64) := by
            have h64 := HK.out
            have hp9 := HP.out
            rw [Bst_succ M k (by omega)]
            unfold comp
            rw [← hp9, ← HMM.out, HS'.out]
          rw [e9]
          exact HB9.out
end Go.Proofs.YtcbfnbmkogeehaaDoor
