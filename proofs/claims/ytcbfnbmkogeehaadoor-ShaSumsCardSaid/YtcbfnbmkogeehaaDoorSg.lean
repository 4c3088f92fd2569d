/- The document's digest: the turns of a block and their sum. -/
import Derived.Test.YtcbfnbmkogeehaaDoorSe
namespace Go.Proofs.YtcbfnbmkogeehaaDoor
open Go.RowKit

noncomputable def tail26 : Code := (Tryd.f8.body.bind (seqAt 26)).getD .skip
attribute [local irreducible] wpList in
set_option maxRecDepth 100000 in
set_option maxHeartbeats 8000000 in
theorem part26 (hb wb : Nat) (st : St) (S : List UInt32) (wz : World) (Q : Exit → Act → World → Prop) (u0 u1 u2 u3 u4 u5 u8 u10 u11 u12 u13 u14 u15 u16 u17 u18 u19 u20 u21 u22 u23 u24 u25 u26 u27 u28 u29 u30 u31 u32 u33 u34 u35 u36 u37 u38 u39 u40 u41 u42 u43 u44 u45 u46 u47 u48 u49 u50 u51 u52 u53 u54 u55 u56 u57 u58 u59 u60 u61 u62 u63 u64 u65 u66 u67 u68 u69 u70 u71 u72 u73 u74 u75 u76 u77 u78 u79 u80 u81 u82 u83 u84 u85 u86 u87 u88 u89 u90 u91 u92 u93 u94 u95 u96 u97 u98 u99 u100 u101 u102 u103 u104 u105 u106 u107 u108 u109 u110 u111 u112 u113 u114 u115 u116 u117 u118 u119 u120 u121 u122 u123 u124 u125 u126 u127 u128 u129 u130 u131 u132 u133 u134 u135 u136 u137 u138 u139 u140 u141 u142 u143 u144 u145 u146 u147 u148 u149 u150 u151 u152 u153 u154 u155 u156 u157 u158 u159 u160 u161 u162 u163 u164 u165 u166 u167 u168 u169 u170 u171 u172 u173 u174 u175 u176 u177 u178 u179 u180 u181 u182 u183 u184 u185 u186 u187 u188 u189 u190 u191 u192 u193 u194 u195 u196 u197 u198 u199 u200 u201 u202 u203 u204 u205 u206 u207 u208 u209 u210 u211 u212 u213 u214 u215 u216 u217 u218 u219 u220 u221 u222 u223 u224 u225 u226 u227 u228 u229 u230 u231 u232 u233 u234 u235 u236 u237 u238 u239 u240 u241 u242 u243 u244 u245 u246 u247 u248 u249 u250 u251 u252 u253 u254 u255 u256 u257 u258 u259 u260 u261 u262 u263 u264 u265 u266 u267 u268 u269 u270 u271 u272 u273 u274 u275 u276 u277 u278 u279 u280 u281 u282 u283 u284 u285 u286 u287 u288 u289 u290 u291 u292 u293 u294 u295 u296 u297 u298 u299 u300 u301 u302 u303 u304 u305 u306 u307 u308 u309 u310 u311 u312 u313 u314 u315 u316 u317 u318 u319 u320 u321 u322 u323 u324 u325 u326 u327 u328 u329 u330 u331 u332 u333 u334 u335 u336 u337 u338 u339 u340 u341 u342 u343 u344 u345 u346 u347 u348 u349 u350 u351 u352 u353 u354 u355 u356 u357 u358 u359 u360 u361 u362 u363 u364 u365 u366 u367 u368 u369 u370 u371 u372 u373 : Value)
    (hh : Blk wz hb 52 (st.list.map W).toArray) (hk : Blk wz (hb + 1) 52 (kt.map W).toArray) (hs : ∀ i, i < 64 → wz.cell? ⟨wb, i, none⟩ = some (W (S.getD i 0)))
    (hp : ∀ c a a' w, a.defers = a'.defers → Q (.panic c) a w → Q (.panic c) a' w)
    (hq : ∀ (n14 n15 n16 n17 n18 n19 n20 n21 n22 n172 n173 n174 n175 n176 n177 n178 n179 n180 n181 n182 n183 n184 n185 n186 n187 n188 n189 n190 n191 n192 n193 n194 n195 n196 n197 n198 n199 n200 n201 n202 n203 n204 n205 n206 n207 n208 n209 n210 n211 n212 n213 n214 n215 n216 n217 n218 n219 n220 n221 n222 n223 n224 n225 n226 n227 n228 n229 n230 n231 n232 n233 n234 n235 n236 n237 n238 n239 n240 n241 n242 n243 n244 n245 n246 n247 n248 n249 n250 n251 n252 n253 n254 n255 n256 n257 n258 n259 n260 n261 n262 n263 n264 n265 n266 n267 n268 n269 n270 n271 n272 n273 n274 n275 n276 n277 n278 n279 n280 n281 n282 n283 n284 n285 n286 n287 n288 n289 n290 n291 n292 n293 n294 n295 n296 n297 n298 n299 n300 n301 n302 n303 n304 n305 n306 n307 n308 n309 n310 n311 n312 n313 n314 n315 n316 n317 n318 n319 n320 n321 n322 n323 n324 n325 n326 n327 n328 n329 n330 : Value) (w' : World), Ex hb wz w' → Blk w' hb 52 ((st.add (st.turns S 64)).list.map W).toArray → Q .normal ⟨#[u0, u1, u2, u3, u4, u5, .slice (some ⟨hb, 0, none⟩) 8 8, .slice (some ⟨hb + 1, 0, none⟩) 64 64, u8, .slice (some ⟨wb, 0, none⟩) 64 64, u10, u11, u12, u13, n14, n15, n16, n17, n18, n19, n20, n21, n22, u23, u24, u25, u26, u27, u28, u29, u30, u31, u32, u33, u34, u35, u36, u37, u38, u39, u40, u41, u42, u43, u44, u45, u46, u47, u48, u49, u50, u51, u52, u53, u54, u55, u56, u57, u58, u59, u60, u61, u62, u63, u64, u65, u66, u67, u68, u69, u70, u71, u72, u73, u74, u75, u76, u77, u78, u79, u80, u81, u82, u83, u84, u85, u86, u87, u88, u89, u90, u91, u92, u93, u94, u95, u96, u97, u98, u99, u100, u101, u102, u103, u104, u105, u106, u107, u108, u109, u110, u111, u112, u113, u114, u115, u116, u117, u118, u119, u120, u121, u122, u123, u124, u125, u126, u127, u128, u129, u130, u131, u132, u133, u134, u135, u136, u137, u138, u139, u140, u141, u142, u143, u144, u145, u146, u147, u148, u149, u150, u151, u152, u153, u154, u155, u156, u157, u158, u159, u160, u161, u162, u163, u164, u165, u166, u167, u168, u169, u170, u171, n172, n173, n174, n175, n176, n177, n178, n179, n180, n181, n182, n183, n184, n185, n186, n187, n188, n189, n190, n191, n192, n193, n194, n195, n196, n197, n198, n199, n200, n201, n202, n203, n204, n205, n206, n207, n208, n209, n210, n211, n212, n213, n214, n215, n216, n217, n218, n219, n220, n221, n222, n223, n224, n225, n226, n227, n228, n229, n230, n231, n232, n233, n234, n235, n236, n237, n238, n239, n240, n241, n242, n243, n244, n245, n246, n247, n248, n249, n250, n251, n252, n253, n254, n255, n256, n257, n258, n259, n260, n261, n262, n263, n264, n265, n266, n267, n268, n269, n270, n271, n272, n273, n274, n275, n276, n277, n278, n279, n280, n281, n282, n283, n284, n285, n286, n287, n288, n289, n290, n291, n292, n293, n294, n295, n296, n297, n298, n299, n300, n301, n302, n303, n304, n305, n306, n307, n308, n309, n310, n311, n312, n313, n314, n315, n316, n317, n318, n319, n320, n321, n322, n323, n324, n325, n326, n327, n328, n329, n330, u331, u332, u333, u334, u335, u336, u337, u338, u339, u340, u341, u342, u343, u344, u345, u346, u347, u348, u349, u350, u351, u352, u353, u354, u355, u356, u357, u358, u359, u360, u361, u362, u363, u364, u365, u366, u367, u368, u369, u370, u371, u372, u373], []⟩ w') :
    Code.wp Tryd.prog tail26 Q ⟨#[u0, u1, u2, u3, u4, u5, .slice (some ⟨hb, 0, none⟩) 8 8, .slice (some ⟨hb + 1, 0, none⟩) 64 64, u8, .slice (some ⟨wb, 0, none⟩) 64 64, u10, u11, u12, u13, u14, u15, u16, u17, u18, u19, u20, u21, u22, u23, u24, u25, u26, u27, u28, u29, u30, u31, u32, u33, u34, u35, u36, u37, u38, u39, u40, u41, u42, u43, u44, u45, u46, u47, u48, u49, u50, u51, u52, u53, u54, u55, u56, u57, u58, u59, u60, u61, u62, u63, u64, u65, u66, u67, u68, u69, u70, u71, u72, u73, u74, u75, u76, u77, u78, u79, u80, u81, u82, u83, u84, u85, u86, u87, u88, u89, u90, u91, u92, u93, u94, u95, u96, u97, u98, u99, u100, u101, u102, u103, u104, u105, u106, u107, u108, u109, u110, u111, u112, u113, u114, u115, u116, u117, u118, u119, u120, u121, u122, u123, u124, u125, u126, u127, u128, u129, u130, u131, u132, u133, u134, u135, u136, u137, u138, u139, u140, u141, u142, u143, u144, u145, u146, u147, u148, u149, u150, u151, u152, u153, u154, u155, u156, u157, u158, u159, u160, u161, u162, u163, u164, u165, u166, u167, u168, u169, u170, u171, u172, u173, u174, u175, u176, u177, u178, u179, u180, u181, u182, u183, u184, u185, u186, u187, u188, u189, u190, u191, u192, u193, u194, u195, u196, u197, u198, u199, u200, u201, u202, u203, u204, u205, u206, u207, u208, u209, u210, u211, u212, u213, u214, u215, u216, u217, u218, u219, u220, u221, u222, u223, u224, u225, u226, u227, u228, u229, u230, u231, u232, u233, u234, u235, u236, u237, u238, u239, u240, u241, u242, u243, u244, u245, u246, u247, u248, u249, u250, u251, u252, u253, u254, u255, u256, u257, u258, u259, u260, u261, u262, u263, u264, u265, u266, u267, u268, u269, u270, u271, u272, u273, u274, u275, u276, u277, u278, u279, u280, u281, u282, u283, u284, u285, u286, u287, u288, u289, u290, u291, u292, u293, u294, u295, u296, u297, u298, u299, u300, u301, u302, u303, u304, u305, u306, u307, u308, u309, u310, u311, u312, u313, u314, u315, u316, u317, u318, u319, u320, u321, u322, u323, u324, u325, u326, u327, u328, u329, u330, u331, u332, u333, u334, u335, u336, u337, u338, u339, u340, u341, u342, u343, u344, u345, u346, u347, u348, u349, u350, u351, u352, u353, u354, u355, u356, u357, u358, u359, u360, u361, u362, u363, u364, u365, u366, u367, u368, u369, u370, u371, u372, u373], []⟩ wz := by
  have HQ := Lib.hid hq
  have HP := Lib.hid hp
  have HHR := Lib.hid hh
  have HKR := Lib.hid hk
  have HSW := Lib.hid hs
  have HX3 := Lib.hid (Ex.refl hb wz)
  have r6 : ∀ x, (W x).cells = #[W x] := fun _ => rfl
  unfold Value.cells at r6
  have r7 := fun (x : UInt32) (a : Addr) (w : World) => run_store Tryd.prog w a (W x) .plain rfl
  have FH : Hid (∀ W0, Below wz.drew.heap.size wz.drew W0 → Blk W0 hb 52 (st.list.map W).toArray) := fun W0 h => HHR.out.drew.kept h HHR.out.lt
  clear hh hk hs hq hp
  conv => arg 2; whnf
  go_wp2
  refine Seq.wp_region_seq (by kernel_rfl) (R := (fun a b => Below a.heap.size a b)) (fun a => Below.refl _ a) (fun _ _ _ h k => h.trans (k.mono h.size)) (fun _ _ => True) [] [[6], [172], [173], [6], [175], [176], [6], [178], [179], [6], [181], [182], [6], [184], [185], [6], [187], [188], [6], [190], [191], [6], [193], [194], [174, 177, 180, 183, 186, 189, 192, 195], [196]] [(172, spIs (.slice (some ⟨hb, 0, none⟩) 8 8)), (173, spIs (.pointer (some ⟨hb, 0, none⟩))), (174, spIs (W st.a)), (175, spIs (.slice (some ⟨hb, 0, none⟩) 8 8)), (176, spIs (.pointer (some ⟨hb, 1, none⟩))), (177, spIs (W st.b)), (178, spIs (.slice (some ⟨hb, 0, none⟩) 8 8)), (179, spIs (.pointer (some ⟨hb, 2, none⟩))), (180, spIs (W st.c)), (181, spIs (.slice (some ⟨hb, 0, none⟩) 8 8)), (182, spIs (.pointer (some ⟨hb, 3, none⟩))), (183, spIs (W st.d)), (184, spIs (.slice (some ⟨hb, 0, none⟩) 8 8)), (185, spIs (.pointer (some ⟨hb, 4, none⟩))), (186, spIs (W st.e)), (187, spIs (.slice (some ⟨hb, 0, none⟩) 8 8)), (188, spIs (.pointer (some ⟨hb, 5, none⟩))), (189, spIs (W st.f)), (190, spIs (.slice (some ⟨hb, 0, none⟩) 8 8)), (191, spIs (.pointer (some ⟨hb, 6, none⟩))), (192, spIs (W st.g)), (193, spIs (.slice (some ⟨hb, 0, none⟩) 8 8)), (194, spIs (.pointer (some ⟨hb, 7, none⟩))), (195, spIs (W st.h)), (196, spN (wz.heap.size) (st.list)), (14, spN (wz.heap.size) (st.list))] 374 rfl (by kernel_rfl) (by kernel_rfl) (by kernel_rfl) (by kernel_rfl) ?_ ?_ ?_
  · trivial
  · refine ⟨?_, ?_, ?_, ?_, ?_, ?_, ?_, ?_, ?_, ?_, ?_, ?_, ?_, ?_, ?_, ?_, ?_, ?_, ?_, ?_, ?_, ?_, ?_, ?_, ?_, ?_, trivial⟩
    · as_aux_lemma =>
      refine Seq.UpOb.plain (by decide) (fun _ _ _ _ _ => trivial) (fun _ _ h => h) rfl fun a W0 m hR hS hl K hK => ?_
      have h6 : a.tmps.getD 6 undef = (.slice (some ⟨hb, 0, none⟩) 8 8) := hl 6 (by decide)
      replace hK : ∀ v W2, Below W0.heap.size W0 W2 → v = (.slice (some ⟨hb, 0, none⟩) 8 8) → K (a.put (some 172) v) W2 := fun v W2 h1 h2 => hK v W2 h1 (fun d hd => by cases hd; exact h2)
      clear hl
      simp only [Array.getD_eq_getD_getElem?] at h6
      go_simp
      exact hK _ W0 (Below.refl _ W0) rfl
    · as_aux_lemma =>
      refine Seq.UpOb.plain (by decide) (fun _ _ _ _ _ => trivial) (fun _ _ h => h) rfl fun a W0 m hR hS hl K hK => ?_
      have h172 : a.tmps.getD 172 undef = (.slice (some ⟨hb, 0, none⟩) 8 8) := hl 172 (by decide)
      replace hK : ∀ v W2, Below W0.heap.size W0 W2 → v = (.pointer (some ⟨hb, 0, none⟩)) → K (a.put (some 173) v) W2 := fun v W2 h1 h2 => hK v W2 h1 (fun d hd => by cases hd; exact h2)
      clear hl
      simp only [Array.getD_eq_getD_getElem?] at h172
      go_simp
      exact hK _ W0 (Below.refl _ W0) rfl
    · as_aux_lemma =>
      refine Seq.UpOb.plain (by decide) (fun _ _ _ _ _ => trivial) (fun _ _ h => h) rfl fun a W0 m hR hS hl K hK => ?_
      have h173 : a.tmps.getD 173 undef = (.pointer (some ⟨hb, 0, none⟩)) := hl 173 (by decide)
      replace hK : ∀ v W2, Below W0.heap.size W0 W2 → v = (W st.a) → K (a.put (some 174) v) W2 := fun v W2 h1 h2 => hK v W2 h1 (fun d hd => by cases hd; exact h2)
      clear hl
      have hc : W0.cell? ⟨hb, 0, none⟩ = some (W st.a) := ((FH.out W0 hR).cell 0).trans rfl
      simp only [Array.getD_eq_getD_getElem?] at h173
      go_simp
      exact hK _ W0 (Below.refl _ W0) rfl
    · as_aux_lemma =>
      refine Seq.UpOb.plain (by decide) (fun _ _ _ _ _ => trivial) (fun _ _ h => h) rfl fun a W0 m hR hS hl K hK => ?_
      have h6 : a.tmps.getD 6 undef = (.slice (some ⟨hb, 0, none⟩) 8 8) := hl 6 (by decide)
      replace hK : ∀ v W2, Below W0.heap.size W0 W2 → v = (.slice (some ⟨hb, 0, none⟩) 8 8) → K (a.put (some 175) v) W2 := fun v W2 h1 h2 => hK v W2 h1 (fun d hd => by cases hd; exact h2)
      clear hl
      simp only [Array.getD_eq_getD_getElem?] at h6
      go_simp
      exact hK _ W0 (Below.refl _ W0) rfl
    · as_aux_lemma =>
      refine Seq.UpOb.plain (by decide) (fun _ _ _ _ _ => trivial) (fun _ _ h => h) rfl fun a W0 m hR hS hl K hK => ?_
      have h175 : a.tmps.getD 175 undef = (.slice (some ⟨hb, 0, none⟩) 8 8) := hl 175 (by decide)
      replace hK : ∀ v W2, Below W0.heap.size W0 W2 → v = (.pointer (some ⟨hb, 1, none⟩)) → K (a.put (some 176) v) W2 := fun v W2 h1 h2 => hK v W2 h1 (fun d hd => by cases hd; exact h2)
      clear hl
      simp only [Array.getD_eq_getD_getElem?] at h175
      go_simp
      exact hK _ W0 (Below.refl _ W0) rfl
    · as_aux_lemma =>
      refine Seq.UpOb.plain (by decide) (fun _ _ _ _ _ => trivial) (fun _ _ h => h) rfl fun a W0 m hR hS hl K hK => ?_
      have h176 : a.tmps.getD 176 undef = (.pointer (some ⟨hb, 1, none⟩)) := hl 176 (by decide)
      replace hK : ∀ v W2, Below W0.heap.size W0 W2 → v = (W st.b) → K (a.put (some 177) v) W2 := fun v W2 h1 h2 => hK v W2 h1 (fun d hd => by cases hd; exact h2)
      clear hl
      have hc : W0.cell? ⟨hb, 1, none⟩ = some (W st.b) := ((FH.out W0 hR).cell 1).trans rfl
      simp only [Array.getD_eq_getD_getElem?] at h176
      go_simp
      exact hK _ W0 (Below.refl _ W0) rfl
    · as_aux_lemma =>
      refine Seq.UpOb.plain (by decide) (fun _ _ _ _ _ => trivial) (fun _ _ h => h) rfl fun a W0 m hR hS hl K hK => ?_
      have h6 : a.tmps.getD 6 undef = (.slice (some ⟨hb, 0, none⟩) 8 8) := hl 6 (by decide)
      replace hK : ∀ v W2, Below W0.heap.size W0 W2 → v = (.slice (some ⟨hb, 0, none⟩) 8 8) → K (a.put (some 178) v) W2 := fun v W2 h1 h2 => hK v W2 h1 (fun d hd => by cases hd; exact h2)
      clear hl
      simp only [Array.getD_eq_getD_getElem?] at h6
      go_simp
      exact hK _ W0 (Below.refl _ W0) rfl
    · as_aux_lemma =>
      refine Seq.UpOb.plain (by decide) (fun _ _ _ _ _ => trivial) (fun _ _ h => h) rfl fun a W0 m hR hS hl K hK => ?_
      have h178 : a.tmps.getD 178 undef = (.slice (some ⟨hb, 0, none⟩) 8 8) := hl 178 (by decide)
      replace hK : ∀ v W2, Below W0.heap.size W0 W2 → v = (.pointer (some ⟨hb, 2, none⟩)) → K (a.put (some 179) v) W2 := fun v W2 h1 h2 => hK v W2 h1 (fun d hd => by cases hd; exact h2)
      clear hl
      simp only [Array.getD_eq_getD_getElem?] at h178
      go_simp
      exact hK _ W0 (Below.refl _ W0) rfl
    · as_aux_lemma =>
      refine Seq.UpOb.plain (by decide) (fun _ _ _ _ _ => trivial) (fun _ _ h => h) rfl fun a W0 m hR hS hl K hK => ?_
      have h179 : a.tmps.getD 179 undef = (.pointer (some ⟨hb, 2, none⟩)) := hl 179 (by decide)
      replace hK : ∀ v W2, Below W0.heap.size W0 W2 → v = (W st.c) → K (a.put (some 180) v) W2 := fun v W2 h1 h2 => hK v W2 h1 (fun d hd => by cases hd; exact h2)
      clear hl
      have hc : W0.cell? ⟨hb, 2, none⟩ = some (W st.c) := ((FH.out W0 hR).cell 2).trans rfl
      simp only [Array.getD_eq_getD_getElem?] at h179
      go_simp
      exact hK _ W0 (Below.refl _ W0) rfl
    · as_aux_lemma =>
      refine Seq.UpOb.plain (by decide) (fun _ _ _ _ _ => trivial) (fun _ _ h => h) rfl fun a W0 m hR hS hl K hK => ?_
      have h6 : a.tmps.getD 6 undef = (.slice (some ⟨hb, 0, none⟩) 8 8) := hl 6 (by decide)
      replace hK : ∀ v W2, Below W0.heap.size W0 W2 → v = (.slice (some ⟨hb, 0, none⟩) 8 8) → K (a.put (some 181) v) W2 := fun v W2 h1 h2 => hK v W2 h1 (fun d hd => by cases hd; exact h2)
      clear hl
      simp only [Array.getD_eq_getD_getElem?] at h6
      go_simp
      exact hK _ W0 (Below.refl _ W0) rfl
    · as_aux_lemma =>
      refine Seq.UpOb.plain (by decide) (fun _ _ _ _ _ => trivial) (fun _ _ h => h) rfl fun a W0 m hR hS hl K hK => ?_
      have h181 : a.tmps.getD 181 undef = (.slice (some ⟨hb, 0, none⟩) 8 8) := hl 181 (by decide)
      replace hK : ∀ v W2, Below W0.heap.size W0 W2 → v = (.pointer (some ⟨hb, 3, none⟩)) → K (a.put (some 182) v) W2 := fun v W2 h1 h2 => hK v W2 h1 (fun d hd => by cases hd; exact h2)
      clear hl
      simp only [Array.getD_eq_getD_getElem?] at h181
      go_simp
      exact hK _ W0 (Below.refl _ W0) rfl
    · as_aux_lemma =>
      refine Seq.UpOb.plain (by decide) (fun _ _ _ _ _ => trivial) (fun _ _ h => h) rfl fun a W0 m hR hS hl K hK => ?_
      have h182 : a.tmps.getD 182 undef = (.pointer (some ⟨hb, 3, none⟩)) := hl 182 (by decide)
      replace hK : ∀ v W2, Below W0.heap.size W0 W2 → v = (W st.d) → K (a.put (some 183) v) W2 := fun v W2 h1 h2 => hK v W2 h1 (fun d hd => by cases hd; exact h2)
      clear hl
      have hc : W0.cell? ⟨hb, 3, none⟩ = some (W st.d) := ((FH.out W0 hR).cell 3).trans rfl
      simp only [Array.getD_eq_getD_getElem?] at h182
      go_simp
      exact hK _ W0 (Below.refl _ W0) rfl
    · as_aux_lemma =>
      refine Seq.UpOb.plain (by decide) (fun _ _ _ _ _ => trivial) (fun _ _ h => h) rfl fun a W0 m hR hS hl K hK => ?_
      have h6 : a.tmps.getD 6 undef = (.slice (some ⟨hb, 0, none⟩) 8 8) := hl 6 (by decide)
      replace hK : ∀ v W2, Below W0.heap.size W0 W2 → v = (.slice (some ⟨hb, 0, none⟩) 8 8) → K (a.put (some 184) v) W2 := fun v W2 h1 h2 => hK v W2 h1 (fun d hd => by cases hd; exact h2)
      clear hl
      simp only [Array.getD_eq_getD_getElem?] at h6
      go_simp
      exact hK _ W0 (Below.refl _ W0) rfl
    · as_aux_lemma =>
      refine Seq.UpOb.plain (by decide) (fun _ _ _ _ _ => trivial) (fun _ _ h => h) rfl fun a W0 m hR hS hl K hK => ?_
      have h184 : a.tmps.getD 184 undef = (.slice (some ⟨hb, 0, none⟩) 8 8) := hl 184 (by decide)
      replace hK : ∀ v W2, Below W0.heap.size W0 W2 → v = (.pointer (some ⟨hb, 4, none⟩)) → K (a.put (some 185) v) W2 := fun v W2 h1 h2 => hK v W2 h1 (fun d hd => by cases hd; exact h2)
      clear hl
      simp only [Array.getD_eq_getD_getElem?] at h184
      go_simp
      exact hK _ W0 (Below.refl _ W0) rfl
    · as_aux_lemma =>
      refine Seq.UpOb.plain (by decide) (fun _ _ _ _ _ => trivial) (fun _ _ h => h) rfl fun a W0 m hR hS hl K hK => ?_
      have h185 : a.tmps.getD 185 undef = (.pointer (some ⟨hb, 4, none⟩)) := hl 185 (by decide)
      replace hK : ∀ v W2, Below W0.heap.size W0 W2 → v = (W st.e) → K (a.put (some 186) v) W2 := fun v W2 h1 h2 => hK v W2 h1 (fun d hd => by cases hd; exact h2)
      clear hl
      have hc : W0.cell? ⟨hb, 4, none⟩ = some (W st.e) := ((FH.out W0 hR).cell 4).trans rfl
      simp only [Array.getD_eq_getD_getElem?] at h185
      go_simp
      exact hK _ W0 (Below.refl _ W0) rfl
    · as_aux_lemma =>
      refine Seq.UpOb.plain (by decide) (fun _ _ _ _ _ => trivial) (fun _ _ h => h) rfl fun a W0 m hR hS hl K hK => ?_
      have h6 : a.tmps.getD 6 undef = (.slice (some ⟨hb, 0, none⟩) 8 8) := hl 6 (by decide)
      replace hK : ∀ v W2, Below W0.heap.size W0 W2 → v = (.slice (some ⟨hb, 0, none⟩) 8 8) → K (a.put (some 187) v) W2 := fun v W2 h1 h2 => hK v W2 h1 (fun d hd => by cases hd; exact h2)
      clear hl
      simp only [Array.getD_eq_getD_getElem?] at h6
      go_simp
      exact hK _ W0 (Below.refl _ W0) rfl
    · as_aux_lemma =>
      refine Seq.UpOb.plain (by decide) (fun _ _ _ _ _ => trivial) (fun _ _ h => h) rfl fun a W0 m hR hS hl K hK => ?_
      have h187 : a.tmps.getD 187 undef = (.slice (some ⟨hb, 0, none⟩) 8 8) := hl 187 (by decide)
      replace hK : ∀ v W2, Below W0.heap.size W0 W2 → v = (.pointer (some ⟨hb, 5, none⟩)) → K (a.put (some 188) v) W2 := fun v W2 h1 h2 => hK v W2 h1 (fun d hd => by cases hd; exact h2)
      clear hl
      simp only [Array.getD_eq_getD_getElem?] at h187
      go_simp
      exact hK _ W0 (Below.refl _ W0) rfl
    · as_aux_lemma =>
      refine Seq.UpOb.plain (by decide) (fun _ _ _ _ _ => trivial) (fun _ _ h => h) rfl fun a W0 m hR hS hl K hK => ?_
      have h188 : a.tmps.getD 188 undef = (.pointer (some ⟨hb, 5, none⟩)) := hl 188 (by decide)
      replace hK : ∀ v W2, Below W0.heap.size W0 W2 → v = (W st.f) → K (a.put (some 189) v) W2 := fun v W2 h1 h2 => hK v W2 h1 (fun d hd => by cases hd; exact h2)
      clear hl
      have hc : W0.cell? ⟨hb, 5, none⟩ = some (W st.f) := ((FH.out W0 hR).cell 5).trans rfl
      simp only [Array.getD_eq_getD_getElem?] at h188
      go_simp
      exact hK _ W0 (Below.refl _ W0) rfl
    · as_aux_lemma =>
      refine Seq.UpOb.plain (by decide) (fun _ _ _ _ _ => trivial) (fun _ _ h => h) rfl fun a W0 m hR hS hl K hK => ?_
      have h6 : a.tmps.getD 6 undef = (.slice (some ⟨hb, 0, none⟩) 8 8) := hl 6 (by decide)
      replace hK : ∀ v W2, Below W0.heap.size W0 W2 → v = (.slice (some ⟨hb, 0, none⟩) 8 8) → K (a.put (some 190) v) W2 := fun v W2 h1 h2 => hK v W2 h1 (fun d hd => by cases hd; exact h2)
      clear hl
      simp only [Array.getD_eq_getD_getElem?] at h6
      go_simp
      exact hK _ W0 (Below.refl _ W0) rfl
    · as_aux_lemma =>
      refine Seq.UpOb.plain (by decide) (fun _ _ _ _ _ => trivial) (fun _ _ h => h) rfl fun a W0 m hR hS hl K hK => ?_
      have h190 : a.tmps.getD 190 undef = (.slice (some ⟨hb, 0, none⟩) 8 8) := hl 190 (by decide)
      replace hK : ∀ v W2, Below W0.heap.size W0 W2 → v = (.pointer (some ⟨hb, 6, none⟩)) → K (a.put (some 191) v) W2 := fun v W2 h1 h2 => hK v W2 h1 (fun d hd => by cases hd; exact h2)
      clear hl
      simp only [Array.getD_eq_getD_getElem?] at h190
      go_simp
      exact hK _ W0 (Below.refl _ W0) rfl
    · as_aux_lemma =>
      refine Seq.UpOb.plain (by decide) (fun _ _ _ _ _ => trivial) (fun _ _ h => h) rfl fun a W0 m hR hS hl K hK => ?_
      have h191 : a.tmps.getD 191 undef = (.pointer (some ⟨hb, 6, none⟩)) := hl 191 (by decide)
      replace hK : ∀ v W2, Below W0.heap.size W0 W2 → v = (W st.g) → K (a.put (some 192) v) W2 := fun v W2 h1 h2 => hK v W2 h1 (fun d hd => by cases hd; exact h2)
      clear hl
      have hc : W0.cell? ⟨hb, 6, none⟩ = some (W st.g) := ((FH.out W0 hR).cell 6).trans rfl
      simp only [Array.getD_eq_getD_getElem?] at h191
      go_simp
      exact hK _ W0 (Below.refl _ W0) rfl
    · as_aux_lemma =>
      refine Seq.UpOb.plain (by decide) (fun _ _ _ _ _ => trivial) (fun _ _ h => h) rfl fun a W0 m hR hS hl K hK => ?_
      have h6 : a.tmps.getD 6 undef = (.slice (some ⟨hb, 0, none⟩) 8 8) := hl 6 (by decide)
      replace hK : ∀ v W2, Below W0.heap.size W0 W2 → v = (.slice (some ⟨hb, 0, none⟩) 8 8) → K (a.put (some 193) v) W2 := fun v W2 h1 h2 => hK v W2 h1 (fun d hd => by cases hd; exact h2)
      clear hl
      simp only [Array.getD_eq_getD_getElem?] at h6
      go_simp
      exact hK _ W0 (Below.refl _ W0) rfl
    · as_aux_lemma =>
      refine Seq.UpOb.plain (by decide) (fun _ _ _ _ _ => trivial) (fun _ _ h => h) rfl fun a W0 m hR hS hl K hK => ?_
      have h193 : a.tmps.getD 193 undef = (.slice (some ⟨hb, 0, none⟩) 8 8) := hl 193 (by decide)
      replace hK : ∀ v W2, Below W0.heap.size W0 W2 → v = (.pointer (some ⟨hb, 7, none⟩)) → K (a.put (some 194) v) W2 := fun v W2 h1 h2 => hK v W2 h1 (fun d hd => by cases hd; exact h2)
      clear hl
      simp only [Array.getD_eq_getD_getElem?] at h193
      go_simp
      exact hK _ W0 (Below.refl _ W0) rfl
    · as_aux_lemma =>
      refine Seq.UpOb.plain (by decide) (fun _ _ _ _ _ => trivial) (fun _ _ h => h) rfl fun a W0 m hR hS hl K hK => ?_
      have h194 : a.tmps.getD 194 undef = (.pointer (some ⟨hb, 7, none⟩)) := hl 194 (by decide)
      replace hK : ∀ v W2, Below W0.heap.size W0 W2 → v = (W st.h) → K (a.put (some 195) v) W2 := fun v W2 h1 h2 => hK v W2 h1 (fun d hd => by cases hd; exact h2)
      clear hl
      have hc : W0.cell? ⟨hb, 7, none⟩ = some (W st.h) := ((FH.out W0 hR).cell 7).trans rfl
      simp only [Array.getD_eq_getD_getElem?] at h194
      go_simp
      exact hK _ W0 (Below.refl _ W0) rfl
    · as_aux_lemma =>
      refine Seq.UpOb.plain (by decide) (fun _ _ _ _ _ => trivial) (fun _ _ h => h) rfl fun a W0 m hR hS hl K hK => ?_
      have h174 : a.tmps.getD 174 undef = (W st.a) := hl 174 (by decide)
      have h177 : a.tmps.getD 177 undef = (W st.b) := hl 177 (by decide)
      have h180 : a.tmps.getD 180 undef = (W st.c) := hl 180 (by decide)
      have h183 : a.tmps.getD 183 undef = (W st.d) := hl 183 (by decide)
      have h186 : a.tmps.getD 186 undef = (W st.e) := hl 186 (by decide)
      have h189 : a.tmps.getD 189 undef = (W st.f) := hl 189 (by decide)
      have h192 : a.tmps.getD 192 undef = (W st.g) := hl 192 (by decide)
      have h195 : a.tmps.getD 195 undef = (W st.h) := hl 195 (by decide)
      replace hK : ∀ v W2, Below W0.heap.size W0 W2 → NV (wz.heap.size) (st.list) v W2 → K (a.put (some 196) v) W2 := fun v W2 h1 h2 => hK v W2 h1 (fun d hd => by cases hd; exact h2)
      clear hl
      exact wp_eight _ _ _ _ _ _ _ _ rfl (st.list) rfl h174 h177 h180 h183 h186 h189 h192 h195 (hK _ _ ((Below.refl _ W0).alloc (Nat.le_refl _) _) ⟨W0.heap.size, rfl, hR.size, Blk.fresh W0 52 ((st.list).map W).toArray⟩)
    · as_aux_lemma =>
      refine Seq.UpOb.plain (by decide) (fun _ _ _ _ _ => trivial) (fun _ _ h => h) rfl fun a W0 m hR hS hl K hK => ?_
      have h196 : NV (wz.heap.size) (st.list) (a.tmps.getD 196 undef) W0 := hl 196 (by decide)
      generalize hv196 : a.tmps.getD 196 undef = v196 at h196
      replace hK : ∀ v W2, Below W0.heap.size W0 W2 → NV (wz.heap.size) (st.list) v W2 → K (a.put (some 14) v) W2 := fun v W2 h1 h2 => hK v W2 h1 (fun d hd => by cases hd; exact h2)
      clear hl
      simp only [Array.getD_eq_getD_getElem?] at hv196
      go_simp
      exact hK _ W0 (Below.refl _ W0) h196
  · intro a W3 hd hsz hR3 hl _
    have hl' : ∀ t, Seq.SpOf _ _ t (a.tmps.getD t undef) W3 := hl
    obtain ⟨x196, e196⟩ : ∃ x, a.tmps.getD 196 undef = x := ⟨_, rfl⟩
    obtain ⟨x14, e14⟩ : ∃ x, a.tmps.getD 14 undef = x := ⟨_, rfl⟩
    have hn14 : NV (wz.heap.size) (st.list) (a.tmps.getD 14 undef) W3 := hl 14
    have htm := Seq.tmps_eq (hsz.trans rfl) [172, 173, 174, 175, 176, 177, 178, 179, 180, 181, 182, 183, 184, 185, 186, 187, 188, 189, 190, 191, 192, 193, 194, 195, 196, 14] [(172, .slice (some ⟨hb, 0, none⟩) 8 8), (173, .pointer (some ⟨hb, 0, none⟩)), (174, W st.a), (175, .slice (some ⟨hb, 0, none⟩) 8 8), (176, .pointer (some ⟨hb, 1, none⟩)), (177, W st.b), (178, .slice (some ⟨hb, 0, none⟩) 8 8), (179, .pointer (some ⟨hb, 2, none⟩)), (180, W st.c), (181, .slice (some ⟨hb, 0, none⟩) 8 8), (182, .pointer (some ⟨hb, 3, none⟩)), (183, W st.d), (184, .slice (some ⟨hb, 0, none⟩) 8 8), (185, .pointer (some ⟨hb, 4, none⟩)), (186, W st.e), (187, .slice (some ⟨hb, 0, none⟩) 8 8), (188, .pointer (some ⟨hb, 5, none⟩)), (189, W st.f), (190, .slice (some ⟨hb, 0, none⟩) 8 8), (191, .pointer (some ⟨hb, 6, none⟩)), (192, W st.g), (193, .slice (some ⟨hb, 0, none⟩) 8 8), (194, .pointer (some ⟨hb, 7, none⟩)), (195, W st.h), (196, x196), (14, x14)] rfl rfl (by decide) 374 rfl (by decide) hl' (by
      intro p hp
      simp only [List.mem_cons, List.not_mem_nil, or_false] at hp
      rcases hp with rfl | rfl | rfl | rfl | rfl | rfl | rfl | rfl | rfl | rfl | rfl | rfl | rfl | rfl | rfl | rfl | rfl | rfl | rfl | rfl | rfl | rfl | rfl | rfl | rfl | rfl
      · exact hl 172
      · exact hl 173
      · exact hl 174
      · exact hl 175
      · exact hl 176
      · exact hl 177
      · exact hl 178
      · exact hl 179
      · exact hl 180
      · exact hl 181
      · exact hl 182
      · exact hl 183
      · exact hl 184
      · exact hl 185
      · exact hl 186
      · exact hl 187
      · exact hl 188
      · exact hl 189
      · exact hl 190
      · exact hl 191
      · exact hl 192
      · exact hl 193
      · exact hl 194
      · exact hl 195
      · exact e196
      · exact e14
      )
    rw [e14] at hn14
    clear hl hl' hsz e196 e14
    obtain ⟨vb2, rfl, hge2, hvb2⟩ := hn14
    have hact : a = ⟨_, []⟩ := Seq.act_eq hd htm
    clear htm hd
    rw [hact]
    clear hact
    simp only [List.foldl, List.setIfInBounds_toArray, List.set]
    have HB6 : Hid (Below wz.heap.size wz W3) := (Below.refl _ wz).drew.trans hR3
    have HV6 := Lib.hid hvb2
    have HG6 := Lib.hid hge2
    have s6 := run_and
    have s7 := run_subF
    have s1 := run_xor
    have s5 := run_add
    clear hvb2 hR3 hge2
    go_wp2
    go_loopw [14, 15] (fun v i wr => ∃ (j vb : Nat) (r : St), j ≤ 64 ∧ i = .int .i64 j ∧ v = .slice (some ⟨vb, 0, none⟩) 8 8 ∧ Below wz.heap.size wz wr ∧ Blk wr vb 52 (r.list.map W).toArray ∧ wz.heap.size ≤ vb ∧ r = st.turns S j) (fun _ i _ => 64 - (intOf i).toNat)
    case atStart => exact ⟨0, vb2, st, Nat.zero_le _, rfl, rfl, HB6.out, HV6.out, HG6.out, rfl⟩
    case round =>
      clear HV6 HB6 HG6
      obtain ⟨j, vb, r, hj, rfl, rfl, hb6, hv, hgv, hr⟩ := hrel
      have HB := Lib.hid hb6
      have HV := Lib.hid hv
      have HRT := Lib.hid hr
      have HGV := Lib.hid hgv
      clear hb6 hv hr hgv
      by_cases hlt6 : j < 64
      · have hkj : wr.cell? ⟨hb + 1, j, none⟩ = some (W (kt.getD j 0)) := by
          rw [(HKR.out.kept HB.out HKR.out.lt).cell j]
          exact kt_get j hlt6
        have hsj : wr.cell? ⟨wb, j, none⟩ = some (W (S.getD j 0)) := by
          have h := HSW.out j hlt6
          exact (HB.out.cell (World.block_lt_of_cell? wz _ h)).trans h
        have hr2 : r.qturn (kt.getD j 0) (S.getD j 0) = st.turns S (j + 1) := by
          rw [qturn_eq, HRT.out]
          rfl
        generalize kt.getD j 0 = kx at *
        generalize S.getD j 0 = sx at *
        have HR2 := Lib.hid hr2
        clear hr2
        refine round6 hb wb vb j r kx sx wr _ _ _ _ _ _ _ _ _ _ _ _ _ _ _ _ _ _ _ _ _ _ _ _ _ _ _ _ _ _ _ _ _ _ _ _ _ _ _ _ _ _ _ _ _ _ _ _ _ _ _ _ _ _ _ _ _ _ _ _ _ _ _ _ _ _ _ _ _ _ _ _ _ _ _ _ _ _ _ _ _ _ _ _ _ _ _ _ _ _ _ _ _ _ _ _ _ _ _ _ _ _ _ _ _ _ _ _ _ _ _ _ _ _ _ _ _ _ _ _ _ _ _ _ _ _ _ _ _ _ _ _ _ _ _ _ _ _ _ _ _ _ _ _ _ _ _ _ _ _ _ _ _ _ _ _ _ _ _ _ _ _ _ _ _ _ _ _ _ _ _ _ _ _ _ _ _ _ _ _ _ _ _ _ _ _ _ _ _ _ _ _ _ _ _ _ _ _ _ _ _ _ _ _ _ _ _ _ _ _ _ _ _ _ _ _ _ _ _ _ _ _ _ _ _ _ _ _ _ _ _ _ _ _ _ _ _ _ _ _ _ _ _ _ _ _ _ _ _ _ _ _ _ _ _ _ _ _ _ _ _ _ _ _ _ _ _ _ _ _ _ _ _ _ _ _ _ _ _ _ _ _ _ _ _ _ _ _ _ _ _ _ _ _ _ _ _ _ _ _ _ _ _ _ _ _ _ _ _ _ _ _ _ _ _ _ _ _ _ _ _ _ _ _ _ _ _ _ _ _ _ _ _ _ _ _ _ _ _ _ _ _ _ _ _ _ _ _ _ _ _ _ _ _ _ _ _ _ _ _ _ _ _ _ _ _ _ _ _ _ _ HV.out hkj hsj hlt6 (fun c _ _ w e h => HP.out c _ _ w e h) ?_
        clear hkj hsj
        intro _ _ _ _ _ _ _ _ _ _ _ _ _ _ _ _ _ _ _ _ _ _ _ _ _ _ _ _ _ _ _ _ _ _ _ _ _ _ _ _ _ _ _ _ _ _ _ _ _ _ _ _ _ _ _ _ _ _ _ _ _ _ _ _ _ _ _ _ _ _ _ _ _ _ _ _ _ _ _ _ _ _ _ _ _ _ _ _ _ _ _ _ _ _ _ _ _ _ _ _ _ _ _ _ _ _ _ _ _ _ _ _ _ _ _ _ _ _ _ _ _ _ _ _ vb3 w9 hB hge hb9
        have HB9 := Lib.hid hb9
        have HBB := Lib.hid hB
        have HGE := Lib.hid hge
        clear hb9 hB hge
        go_wp2
        go_roundw
        case rel => exact ⟨j + 1, vb3, r.qturn kx sx, by omega, by go_num, rfl, HB.out.trans (HBB.out.mono HB.out.size), HB9.out, Nat.le_trans HB.out.size HGE.out, HR2.out⟩
        case measure => simp [intOf]; omega
      · obtain rfl : j = 64 := by omega
        have hvh : vb ≠ hb := by
          have a := HGV.out
          have b := HHR.out.lt
          omega
        obtain ⟨w7, ew7⟩ : ∃ x, x = wr := ⟨_, rfl⟩
        subst ew7
        have HH7 := Lib.hid (HHR.out.kept HB.out HHR.out.lt)
        have HX7 : Hid (Ex hb wz w7) := HX3.out.trans (Ex.of_below HB.out)
        have HVH := Lib.hid hvh
        clear hvh HHR HB FH
        go_wp2
        go_loopw [22] (fun i wr => ∃ j : Nat, j ≤ 8 ∧ i = .int .i64 j ∧ Ex hb w7 wr ∧ Blk wr hb 52 ((mixW st (st.add r) j).map W).toArray) (fun i _ => 8 - (intOf i).toNat)
        case atStart => exact ⟨0, Nat.zero_le _, rfl, Ex.refl _ _, by rw [mixW_zero]; exact HH7.out⟩
        case round =>
          obtain ⟨j, hj, rfl, hx, hm7⟩ := hrel
          have HX := Lib.hid hx
          have HM7 := Lib.hid hm7
          clear hx hm7
          by_cases hlt7 : j < 8
          · have hvj : wr.cell? ⟨vb, j, none⟩ = some (W (r.list.getD j 0)) := by
              rw [(HX.out.blk HV.out HVH.out).cell j]
              exact st_get r j hlt7
            have hhj : wr.cell? ⟨hb, j, none⟩ = some (W (st.list.getD j 0)) := by
              have h := mixW_get st (st.add r) j j hlt7
              rw [if_neg (Nat.lt_irrefl j)] at h
              rw [HM7.out.cell j]
              simp only [List.getElem?_toArray, List.getElem?_map, h]
              rfl
            have hset : (mixW st (st.add r) j).set j (st.list.getD j 0 + r.list.getD j 0) = mixW st (st.add r) (j + 1) := by rw [← add_getD st r j hlt7, mixW_set st (st.add r) j hlt7]
            generalize st.list.getD j 0 = xa at *
            generalize r.list.getD j 0 = xb at *
            have HVJ := Lib.hid hvj
            have HHJ := Lib.hid hhj
            have HSET := Lib.hid hset
            have HDR := Lib.hid (DR.drew wr)
            have hj8 : (j : Int) < 8 := by omega
            clear hvj hhj hset
            go_wp2
            refine wp_region_pre (by kernel_rfl) (R := DR) DR.refl (fun _ _ _ h k => h.trans k) 12 [[6], [22], [6], [22], [321, 322], [323], [14], [22], [325, 326], [327], [324, 328], [319, 320]]
              [(319, .slice (some ⟨hb, 0, none⟩) 8 8), (320, .int .i64 (j : Int)), (321, .slice (some ⟨hb, 0, none⟩) 8 8), (322, .int .i64 (j : Int)), (323, .pointer (some ⟨hb, j, none⟩)), (324, W xa), (325, .slice (some ⟨vb, 0, none⟩) 8 8), (326, .int .i64 (j : Int)), (327, .pointer (some ⟨vb, j, none⟩)), (328, W xb), (329, W (xa + xb)), (330, .pointer (some ⟨hb, j, none⟩))]
              374 rfl (by decide) (by kernel_rfl) (by kernel_rfl) (by simp) (by kernel_rfl) (by kernel_rfl) ?_ ?_
            · refine ⟨?_, ?_, ?_, ?_, ?_, ?_, ?_, ?_, ?_, ?_, ?_, ?_, trivial⟩
              · as_aux_lemma =>
                refine UpOb.plain rfl fun a W1 hR hl K hK => ?_
                have hD : DR wr W1 := HDR.out.trans hR
                have h6 : a.tmps.getD 6 undef = (.slice (some ⟨hb, 0, none⟩) 8 8) := hl 6 (by decide)
                replace hK : ∀ v W2, DR W1 W2 → v = (.slice (some ⟨hb, 0, none⟩) 8 8) → K (a.put (some 319) v) W2 := fun v W2 h1 h2 => hK v W2 h1 (fun d hd => by cases hd; exact h2)
                clear hl
                simp only [Array.getD_eq_getD_getElem?] at h6
                go_simp
                exact hK _ W1 (DR.refl W1) rfl
              · as_aux_lemma =>
                refine UpOb.plain rfl fun a W1 hR hl K hK => ?_
                have hD : DR wr W1 := HDR.out.trans hR
                have h22 : a.tmps.getD 22 undef = (.int .i64 (j : Int)) := hl 22 (by decide)
                replace hK : ∀ v W2, DR W1 W2 → v = (.int .i64 (j : Int)) → K (a.put (some 320) v) W2 := fun v W2 h1 h2 => hK v W2 h1 (fun d hd => by cases hd; exact h2)
                clear hl
                simp only [Array.getD_eq_getD_getElem?] at h22
                go_simp
                exact hK _ W1 (DR.refl W1) rfl
              · as_aux_lemma =>
                refine UpOb.plain rfl fun a W1 hR hl K hK => ?_
                have hD : DR wr W1 := HDR.out.trans hR
                have h6 : a.tmps.getD 6 undef = (.slice (some ⟨hb, 0, none⟩) 8 8) := hl 6 (by decide)
                replace hK : ∀ v W2, DR W1 W2 → v = (.slice (some ⟨hb, 0, none⟩) 8 8) → K (a.put (some 321) v) W2 := fun v W2 h1 h2 => hK v W2 h1 (fun d hd => by cases hd; exact h2)
                clear hl
                simp only [Array.getD_eq_getD_getElem?] at h6
                go_simp
                exact hK _ W1 (DR.refl W1) rfl
              · as_aux_lemma =>
                refine UpOb.plain rfl fun a W1 hR hl K hK => ?_
                have hD : DR wr W1 := HDR.out.trans hR
                have h22 : a.tmps.getD 22 undef = (.int .i64 (j : Int)) := hl 22 (by decide)
                replace hK : ∀ v W2, DR W1 W2 → v = (.int .i64 (j : Int)) → K (a.put (some 322) v) W2 := fun v W2 h1 h2 => hK v W2 h1 (fun d hd => by cases hd; exact h2)
                clear hl
                simp only [Array.getD_eq_getD_getElem?] at h22
                go_simp
                exact hK _ W1 (DR.refl W1) rfl
              · as_aux_lemma =>
                refine UpOb.plain rfl fun a W1 hR hl K hK => ?_
                have hD : DR wr W1 := HDR.out.trans hR
                have h321 : a.tmps.getD 321 undef = (.slice (some ⟨hb, 0, none⟩) 8 8) := hl 321 (by decide)
                have h322 : a.tmps.getD 322 undef = (.int .i64 (j : Int)) := hl 322 (by decide)
                replace hK : ∀ v W2, DR W1 W2 → v = (.pointer (some ⟨hb, j, none⟩)) → K (a.put (some 323) v) W2 := fun v W2 h1 h2 => hK v W2 h1 (fun d hd => by cases hd; exact h2)
                clear hl
                simp only [Array.getD_eq_getD_getElem?] at h321 h322
                go_simp
                exact hK _ W1 (DR.refl W1) rfl
              · as_aux_lemma =>
                refine UpOb.plain rfl fun a W1 hR hl K hK => ?_
                have hD : DR wr W1 := HDR.out.trans hR
                have h323 : a.tmps.getD 323 undef = (.pointer (some ⟨hb, j, none⟩)) := hl 323 (by decide)
                replace hK : ∀ v W2, DR W1 W2 → v = (W xa) → K (a.put (some 324) v) W2 := fun v W2 h1 h2 => hK v W2 h1 (fun d hd => by cases hd; exact h2)
                clear hl
                have hc : W1.cell? ⟨hb, j, none⟩ = some (W xa) := (hD.cell _).trans (HHJ.out)
                simp only [Array.getD_eq_getD_getElem?] at h323
                go_simp
                exact hK _ W1 (DR.refl W1) rfl
              · as_aux_lemma =>
                refine UpOb.plain rfl fun a W1 hR hl K hK => ?_
                have hD : DR wr W1 := HDR.out.trans hR
                have h14 : a.tmps.getD 14 undef = (.slice (some ⟨vb, 0, none⟩) 8 8) := hl 14 (by decide)
                replace hK : ∀ v W2, DR W1 W2 → v = (.slice (some ⟨vb, 0, none⟩) 8 8) → K (a.put (some 325) v) W2 := fun v W2 h1 h2 => hK v W2 h1 (fun d hd => by cases hd; exact h2)
                clear hl
                simp only [Array.getD_eq_getD_getElem?] at h14
                go_simp
                exact hK _ W1 (DR.refl W1) rfl
              · as_aux_lemma =>
                refine UpOb.plain rfl fun a W1 hR hl K hK => ?_
                have hD : DR wr W1 := HDR.out.trans hR
                have h22 : a.tmps.getD 22 undef = (.int .i64 (j : Int)) := hl 22 (by decide)
                replace hK : ∀ v W2, DR W1 W2 → v = (.int .i64 (j : Int)) → K (a.put (some 326) v) W2 := fun v W2 h1 h2 => hK v W2 h1 (fun d hd => by cases hd; exact h2)
                clear hl
                simp only [Array.getD_eq_getD_getElem?] at h22
                go_simp
                exact hK _ W1 (DR.refl W1) rfl
              · as_aux_lemma =>
                refine UpOb.plain rfl fun a W1 hR hl K hK => ?_
                have hD : DR wr W1 := HDR.out.trans hR
                have h325 : a.tmps.getD 325 undef = (.slice (some ⟨vb, 0, none⟩) 8 8) := hl 325 (by decide)
                have h326 : a.tmps.getD 326 undef = (.int .i64 (j : Int)) := hl 326 (by decide)
                replace hK : ∀ v W2, DR W1 W2 → v = (.pointer (some ⟨vb, j, none⟩)) → K (a.put (some 327) v) W2 := fun v W2 h1 h2 => hK v W2 h1 (fun d hd => by cases hd; exact h2)
                clear hl
                simp only [Array.getD_eq_getD_getElem?] at h325 h326
                go_simp
                exact hK _ W1 (DR.refl W1) rfl
              · as_aux_lemma =>
                refine UpOb.plain rfl fun a W1 hR hl K hK => ?_
                have hD : DR wr W1 := HDR.out.trans hR
                have h327 : a.tmps.getD 327 undef = (.pointer (some ⟨vb, j, none⟩)) := hl 327 (by decide)
                replace hK : ∀ v W2, DR W1 W2 → v = (W xb) → K (a.put (some 328) v) W2 := fun v W2 h1 h2 => hK v W2 h1 (fun d hd => by cases hd; exact h2)
                clear hl
                have hc : W1.cell? ⟨vb, j, none⟩ = some (W xb) := (hD.cell _).trans (HVJ.out)
                simp only [Array.getD_eq_getD_getElem?] at h327
                go_simp
                exact hK _ W1 (DR.refl W1) rfl
              · as_aux_lemma =>
                refine UpOb.plain rfl fun a W1 hR hl K hK => ?_
                have hD : DR wr W1 := HDR.out.trans hR
                have h324 : a.tmps.getD 324 undef = (W xa) := hl 324 (by decide)
                have h328 : a.tmps.getD 328 undef = (W xb) := hl 328 (by decide)
                replace hK : ∀ v W2, DR W1 W2 → v = (W (xa + xb)) → K (a.put (some 329) v) W2 := fun v W2 h1 h2 => hK v W2 h1 (fun d hd => by cases hd; exact h2)
                clear hl
                simp only [Array.getD_eq_getD_getElem?] at h324 h328
                go_simp
                exact hK _ W1 (DR.refl W1) rfl
              · as_aux_lemma =>
                refine UpOb.plain rfl fun a W1 hR hl K hK => ?_
                have hD : DR wr W1 := HDR.out.trans hR
                have h319 : a.tmps.getD 319 undef = (.slice (some ⟨hb, 0, none⟩) 8 8) := hl 319 (by decide)
                have h320 : a.tmps.getD 320 undef = (.int .i64 (j : Int)) := hl 320 (by decide)
                replace hK : ∀ v W2, DR W1 W2 → v = (.pointer (some ⟨hb, j, none⟩)) → K (a.put (some 330) v) W2 := fun v W2 h1 h2 => hK v W2 h1 (fun d hd => by cases hd; exact h2)
                clear hl
                simp only [Array.getD_eq_getD_getElem?] at h319 h320
                go_simp
                exact hK _ W1 (DR.refl W1) rfl
            · intro W40 hW
              replace hW : DR wr W40 := HDR.out.trans hW
              have HW40 := Lib.hid hW
              clear hW
              simp only [filled, List.foldl, List.setIfInBounds_toArray, List.set, List.drop_succ_cons, List.drop_zero]
              have hbw := HW40.out.blk HM7.out
              have d1 := hbw.cell
              have d2 := hbw.thaw
              have d3 : ∃ v, (((mixW st (st.add r) j).map W).toArray)[j]? = some v := ⟨_, Array.getElem?_eq_getElem (by rw [List.size_toArray, List.length_map, mixW_length]; exact hlt7)⟩
              obtain ⟨v7, d3⟩ := d3
              go_wp2
              go_roundw
              case rel =>
                have hp := hbw.put j (W (xa + xb))
                rw [words_set, HSET.out] at hp
                exact ⟨j + 1, by omega, by go_num, (HX.out.trans (HW40.out.ex hb)).trans (Ex.setCell hb j _ _), hp⟩
              case measure => simp [intOf]; omega
          · obtain rfl : j = 8 := by omega
            go_wp2
            refine HQ.out _ _ _ _ _ _ _ _ _ _ _ _ _ _ _ _ _ _ _ _ _ _ _ _ _ _ _ _ _ _ _ _ _ _ _ _ _ _ _ _ _ _ _ _ _ _ _ _ _ _ _ _ _ _ _ _ _ _ _ _ _ _ _ _ _ _ _ _ _ _ _ _ _ _ _ _ _ _ _ _ _ _ _ _ _ _ _ _ _ _ _ _ _ _ _ _ _ _ _ _ _ _ _ _ _ _ _ _ _ _ _ _ _ _ _ _ _ _ _ _ _ _ _ _ _ _ _ _ _ _ _ _ _ _ _ _ _ _ _ _ _ _ _ _ _ _ _ _ _ _ _ _ _ _ _ _ _ _ _ _ _ _ _ _ _ _ _ _ _ (HX7.out.trans HX.out) ?_
            have h9 := HM7.out
            rw [mixW_all, HRT.out] at h9
            exact h9
end Go.Proofs.YtcbfnbmkogeehaaDoor
