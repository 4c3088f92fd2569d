/- The document's digest: the five reckonings of a round, each on its own. -/
import Derived.Test.YtcbfnbmkogeehaaDoorS9
namespace Go.Proofs.YtcbfnbmkogeehaaDoor
open Go.RowKit

noncomputable def code30 : Code := (Tryd.f8.body.bind (regOf 30)).getD .skip
attribute [local irreducible] wpList in
set_option maxRecDepth 100000 in
set_option maxHeartbeats 4000000 in
theorem reg30 (hb wb vb j : Nat) (r : St) (kx sx : UInt32) (w0 w1 : World) (Q : Exit → Act → World → Prop) (u0 u1 u2 u3 u4 u5 u6 u8 u10 u11 u12 u13 u16 u17 u18 u19 u20 u21 u22 u23 u24 u25 u26 u27 u28 u29 u30 u31 u32 u33 u34 u35 u36 u37 u38 u39 u40 u41 u42 u43 u44 u45 u46 u47 u48 u49 u50 u51 u52 u53 u54 u55 u56 u57 u58 u59 u60 u61 u62 u63 u64 u65 u66 u67 u68 u69 u70 u71 u72 u73 u74 u75 u76 u77 u78 u79 u80 u81 u82 u83 u84 u85 u86 u87 u88 u89 u90 u91 u92 u93 u94 u95 u96 u97 u98 u99 u100 u101 u102 u103 u104 u105 u106 u107 u108 u109 u110 u111 u112 u113 u114 u115 u116 u117 u118 u119 u120 u121 u122 u123 u124 u125 u126 u127 u128 u129 u130 u131 u132 u133 u134 u135 u136 u137 u138 u139 u140 u141 u142 u143 u144 u145 u146 u147 u148 u149 u150 u151 u152 u153 u154 u155 u156 u157 u158 u159 u160 u161 u162 u163 u164 u165 u166 u167 u168 u169 u170 u171 u172 u173 u174 u175 u176 u177 u178 u179 u180 u181 u182 u183 u184 u185 u186 u187 u188 u189 u190 u191 u192 u193 u194 u195 u196 u197 u198 u199 u200 u201 u202 u203 u204 u205 u206 u207 u208 u209 u210 u211 u212 u213 u214 u215 u216 u217 u218 u219 u220 u221 u222 u223 u224 u225 u226 u227 u228 u229 u230 u231 u232 u233 u234 u235 u236 u237 u238 u239 u240 u241 u242 u243 u244 u245 u246 u247 u248 u249 u250 u251 u252 u253 u254 u255 u256 u257 u258 u259 u260 u261 u262 u263 u264 u265 u266 u267 u268 u269 u270 u271 u272 u273 u274 u275 u276 u277 u278 u279 u280 u281 u282 u283 u284 u285 u286 u287 u288 u289 u290 u291 u292 u293 u294 u295 u296 u297 u298 u299 u300 u301 u302 u303 u304 u305 u306 u307 u308 u309 u310 u311 u312 u313 u314 u315 u316 u317 u318 u319 u320 u321 u322 u323 u324 u325 u326 u327 u328 u329 u330 u331 u332 u333 u334 u335 u336 u337 u338 u339 u340 u341 u342 u343 u344 u345 u346 u347 u348 u349 u350 u351 u352 u353 u354 u355 u356 u357 u358 u359 u360 u361 u362 u363 u364 u365 u366 u367 u368 u369 u370 u371 u372 u373 : Value)
    (hd : DR w0 w1) (hv : Blk w0 vb 52 (r.list.map W).toArray) (hkj : w0.cell? ⟨hb + 1, j, none⟩ = some (W kx)) (hsj : w0.cell? ⟨wb, j, none⟩ = some (W sx)) (hj : j < 64)
    (hq : ∀ (n201 n202 n203 n204 n205 n206 n207 n208 n209 n210 n211 n212 n213 n214 : Value) (w' : World), DR w0 w' → Q .normal ⟨#[u0, u1, u2, u3, u4, u5, u6, .slice (some ⟨hb + 1, 0, none⟩) 64 64, u8, .slice (some ⟨wb, 0, none⟩) 64 64, u10, u11, u12, u13, .slice (some ⟨vb, 0, none⟩) 8 8, .int .i64 (j : Int), W (((rotr (r.e) 6) ^^^ (rotr (r.e) 11)) ^^^ (rotr (r.e) 25)), u17, u18, u19, u20, u21, u22, u23, u24, u25, u26, u27, u28, u29, u30, u31, u32, u33, u34, u35, u36, u37, u38, u39, u40, u41, u42, u43, u44, u45, u46, u47, u48, u49, u50, u51, u52, u53, u54, u55, u56, u57, u58, u59, u60, u61, u62, u63, u64, u65, u66, u67, u68, u69, u70, u71, u72, u73, u74, u75, u76, u77, u78, u79, u80, u81, u82, u83, u84, u85, u86, u87, u88, u89, u90, u91, u92, u93, u94, u95, u96, u97, u98, u99, u100, u101, u102, u103, u104, u105, u106, u107, u108, u109, u110, u111, u112, u113, u114, u115, u116, u117, u118, u119, u120, u121, u122, u123, u124, u125, u126, u127, u128, u129, u130, u131, u132, u133, u134, u135, u136, u137, u138, u139, u140, u141, u142, u143, u144, u145, u146, u147, u148, u149, u150, u151, u152, u153, u154, u155, u156, u157, u158, u159, u160, u161, u162, u163, u164, u165, u166, u167, u168, u169, u170, u171, u172, u173, u174, u175, u176, u177, u178, u179, u180, u181, u182, u183, u184, u185, u186, u187, u188, u189, u190, u191, u192, u193, u194, u195, u196, u197, u198, u199, u200, n201, n202, n203, n204, n205, n206, n207, n208, n209, n210, n211, n212, n213, n214, u215, u216, u217, u218, u219, u220, u221, u222, u223, u224, u225, u226, u227, u228, u229, u230, u231, u232, u233, u234, u235, u236, u237, u238, u239, u240, u241, u242, u243, u244, u245, u246, u247, u248, u249, u250, u251, u252, u253, u254, u255, u256, u257, u258, u259, u260, u261, u262, u263, u264, u265, u266, u267, u268, u269, u270, u271, u272, u273, u274, u275, u276, u277, u278, u279, u280, u281, u282, u283, u284, u285, u286, u287, u288, u289, u290, u291, u292, u293, u294, u295, u296, u297, u298, u299, u300, u301, u302, u303, u304, u305, u306, u307, u308, u309, u310, u311, u312, u313, u314, u315, u316, u317, u318, u319, u320, u321, u322, u323, u324, u325, u326, u327, u328, u329, u330, u331, u332, u333, u334, u335, u336, u337, u338, u339, u340, u341, u342, u343, u344, u345, u346, u347, u348, u349, u350, u351, u352, u353, u354, u355, u356, u357, u358, u359, u360, u361, u362, u363, u364, u365, u366, u367, u368, u369, u370, u371, u372, u373], []⟩ w') :
    Code.wp Tryd.prog code30 Q ⟨#[u0, u1, u2, u3, u4, u5, u6, .slice (some ⟨hb + 1, 0, none⟩) 64 64, u8, .slice (some ⟨wb, 0, none⟩) 64 64, u10, u11, u12, u13, .slice (some ⟨vb, 0, none⟩) 8 8, .int .i64 (j : Int), u16, u17, u18, u19, u20, u21, u22, u23, u24, u25, u26, u27, u28, u29, u30, u31, u32, u33, u34, u35, u36, u37, u38, u39, u40, u41, u42, u43, u44, u45, u46, u47, u48, u49, u50, u51, u52, u53, u54, u55, u56, u57, u58, u59, u60, u61, u62, u63, u64, u65, u66, u67, u68, u69, u70, u71, u72, u73, u74, u75, u76, u77, u78, u79, u80, u81, u82, u83, u84, u85, u86, u87, u88, u89, u90, u91, u92, u93, u94, u95, u96, u97, u98, u99, u100, u101, u102, u103, u104, u105, u106, u107, u108, u109, u110, u111, u112, u113, u114, u115, u116, u117, u118, u119, u120, u121, u122, u123, u124, u125, u126, u127, u128, u129, u130, u131, u132, u133, u134, u135, u136, u137, u138, u139, u140, u141, u142, u143, u144, u145, u146, u147, u148, u149, u150, u151, u152, u153, u154, u155, u156, u157, u158, u159, u160, u161, u162, u163, u164, u165, u166, u167, u168, u169, u170, u171, u172, u173, u174, u175, u176, u177, u178, u179, u180, u181, u182, u183, u184, u185, u186, u187, u188, u189, u190, u191, u192, u193, u194, u195, u196, u197, u198, u199, u200, u201, u202, u203, u204, u205, u206, u207, u208, u209, u210, u211, u212, u213, u214, u215, u216, u217, u218, u219, u220, u221, u222, u223, u224, u225, u226, u227, u228, u229, u230, u231, u232, u233, u234, u235, u236, u237, u238, u239, u240, u241, u242, u243, u244, u245, u246, u247, u248, u249, u250, u251, u252, u253, u254, u255, u256, u257, u258, u259, u260, u261, u262, u263, u264, u265, u266, u267, u268, u269, u270, u271, u272, u273, u274, u275, u276, u277, u278, u279, u280, u281, u282, u283, u284, u285, u286, u287, u288, u289, u290, u291, u292, u293, u294, u295, u296, u297, u298, u299, u300, u301, u302, u303, u304, u305, u306, u307, u308, u309, u310, u311, u312, u313, u314, u315, u316, u317, u318, u319, u320, u321, u322, u323, u324, u325, u326, u327, u328, u329, u330, u331, u332, u333, u334, u335, u336, u337, u338, u339, u340, u341, u342, u343, u344, u345, u346, u347, u348, u349, u350, u351, u352, u353, u354, u355, u356, u357, u358, u359, u360, u361, u362, u363, u364, u365, u366, u367, u368, u369, u370, u371, u372, u373], []⟩ w1 := by
  have HV := Lib.hid hv
  have HKJ := Lib.hid hkj
  have HSJ := Lib.hid hsj
  have HQ := Lib.hid hq
  have HDR := Lib.hid (hd.trans (DR.drew w1))
  have hj64 : (j : Int) < 64 := by omega
  have s6 := run_and
  have s7 := run_subF
  have s1 := run_xor
  have s5 := run_add
  clear hv hkj hsj hq hd
  conv => arg 2; whnf
  refine wp_region_pre (by kernel_rfl) (R := DR) DR.refl (fun _ _ _ h k => h.trans k) 15 [[14], [201], [202], [203], [14], [205], [206], [207], [204, 208], [14], [210], [211], [212], [209, 213], [214]]
    [(201, .slice (some ⟨vb, 0, none⟩) 8 8), (202, .pointer (some ⟨vb, 4, none⟩)), (203, W r.e), (204, W (rotr (r.e) 6)), (205, .slice (some ⟨vb, 0, none⟩) 8 8), (206, .pointer (some ⟨vb, 4, none⟩)), (207, W r.e), (208, W (rotr (r.e) 11)), (209, W ((rotr (r.e) 6) ^^^ (rotr (r.e) 11))), (210, .slice (some ⟨vb, 0, none⟩) 8 8), (211, .pointer (some ⟨vb, 4, none⟩)), (212, W r.e), (213, W (rotr (r.e) 25)), (214, W (((rotr (r.e) 6) ^^^ (rotr (r.e) 11)) ^^^ (rotr (r.e) 25))), (16, W (((rotr (r.e) 6) ^^^ (rotr (r.e) 11)) ^^^ (rotr (r.e) 25)))]
    374 rfl (by decide) (by kernel_rfl) (by kernel_rfl) (by simp) (by kernel_rfl) (by kernel_rfl) ?_ ?_
  · refine ⟨?_, ?_, ?_, ?_, ?_, ?_, ?_, ?_, ?_, ?_, ?_, ?_, ?_, ?_, ?_, trivial⟩
    · as_aux_lemma =>
      refine UpOb.plain rfl fun a W1 hR hl K hK => ?_
      have hD : DR w0 W1 := HDR.out.trans hR
      have h14 : a.tmps.getD 14 undef = (.slice (some ⟨vb, 0, none⟩) 8 8) := hl 14 (by decide)
      replace hK : ∀ v W2, DR W1 W2 → v = (.slice (some ⟨vb, 0, none⟩) 8 8) → K (a.put (some 201) v) W2 := fun v W2 h1 h2 => hK v W2 h1 (fun d hd => by cases hd; exact h2)
      clear hl
      simp only [Array.getD_eq_getD_getElem?] at h14
      go_simp
      exact hK _ W1 (DR.refl W1) rfl
    · as_aux_lemma =>
      refine UpOb.plain rfl fun a W1 hR hl K hK => ?_
      have hD : DR w0 W1 := HDR.out.trans hR
      have h201 : a.tmps.getD 201 undef = (.slice (some ⟨vb, 0, none⟩) 8 8) := hl 201 (by decide)
      replace hK : ∀ v W2, DR W1 W2 → v = (.pointer (some ⟨vb, 4, none⟩)) → K (a.put (some 202) v) W2 := fun v W2 h1 h2 => hK v W2 h1 (fun d hd => by cases hd; exact h2)
      clear hl
      simp only [Array.getD_eq_getD_getElem?] at h201
      go_simp
      exact hK _ W1 (DR.refl W1) rfl
    · as_aux_lemma =>
      refine UpOb.plain rfl fun a W1 hR hl K hK => ?_
      have hD : DR w0 W1 := HDR.out.trans hR
      have h202 : a.tmps.getD 202 undef = (.pointer (some ⟨vb, 4, none⟩)) := hl 202 (by decide)
      replace hK : ∀ v W2, DR W1 W2 → v = (W r.e) → K (a.put (some 203) v) W2 := fun v W2 h1 h2 => hK v W2 h1 (fun d hd => by cases hd; exact h2)
      clear hl
      have hc : W1.cell? ⟨vb, 4, none⟩ = some (W r.e) := (hD.cell _).trans ((HV.out.cell 4).trans rfl)
      simp only [Array.getD_eq_getD_getElem?] at h202
      go_simp
      exact hK _ W1 (DR.refl W1) rfl
    · as_aux_lemma =>
      refine UpOb.plain rfl fun a W1 hR hl K hK => ?_
      have hD : DR w0 W1 := HDR.out.trans hR
      have h203 : a.tmps.getD 203 undef = (W r.e) := hl 203 (by decide)
      replace hK : ∀ v W2, DR W1 W2 → v = (W (rotr (r.e) 6)) → K (a.put (some 204) v) W2 := fun v W2 h1 h2 => hK v W2 h1 (fun d hd => by cases hd; exact h2)
      clear hl
      have hs := rotr_one (r.e) 6 (by decide) (by decide) W1
      simp only [Array.getD_eq_getD_getElem?] at h203
      go_simp
      refine hs.mono ?_
      rintro e W2 ⟨rfl, N, rfl⟩
      exact hK _ _ ⟨N, rfl⟩ rfl
    · as_aux_lemma =>
      refine UpOb.plain rfl fun a W1 hR hl K hK => ?_
      have hD : DR w0 W1 := HDR.out.trans hR
      have h14 : a.tmps.getD 14 undef = (.slice (some ⟨vb, 0, none⟩) 8 8) := hl 14 (by decide)
      replace hK : ∀ v W2, DR W1 W2 → v = (.slice (some ⟨vb, 0, none⟩) 8 8) → K (a.put (some 205) v) W2 := fun v W2 h1 h2 => hK v W2 h1 (fun d hd => by cases hd; exact h2)
      clear hl
      simp only [Array.getD_eq_getD_getElem?] at h14
      go_simp
      exact hK _ W1 (DR.refl W1) rfl
    · as_aux_lemma =>
      refine UpOb.plain rfl fun a W1 hR hl K hK => ?_
      have hD : DR w0 W1 := HDR.out.trans hR
      have h205 : a.tmps.getD 205 undef = (.slice (some ⟨vb, 0, none⟩) 8 8) := hl 205 (by decide)
      replace hK : ∀ v W2, DR W1 W2 → v = (.pointer (some ⟨vb, 4, none⟩)) → K (a.put (some 206) v) W2 := fun v W2 h1 h2 => hK v W2 h1 (fun d hd => by cases hd; exact h2)
      clear hl
      simp only [Array.getD_eq_getD_getElem?] at h205
      go_simp
      exact hK _ W1 (DR.refl W1) rfl
    · as_aux_lemma =>
      refine UpOb.plain rfl fun a W1 hR hl K hK => ?_
      have hD : DR w0 W1 := HDR.out.trans hR
      have h206 : a.tmps.getD 206 undef = (.pointer (some ⟨vb, 4, none⟩)) := hl 206 (by decide)
      replace hK : ∀ v W2, DR W1 W2 → v = (W r.e) → K (a.put (some 207) v) W2 := fun v W2 h1 h2 => hK v W2 h1 (fun d hd => by cases hd; exact h2)
      clear hl
      have hc : W1.cell? ⟨vb, 4, none⟩ = some (W r.e) := (hD.cell _).trans ((HV.out.cell 4).trans rfl)
      simp only [Array.getD_eq_getD_getElem?] at h206
      go_simp
      exact hK _ W1 (DR.refl W1) rfl
    · as_aux_lemma =>
      refine UpOb.plain rfl fun a W1 hR hl K hK => ?_
      have hD : DR w0 W1 := HDR.out.trans hR
      have h207 : a.tmps.getD 207 undef = (W r.e) := hl 207 (by decide)
      replace hK : ∀ v W2, DR W1 W2 → v = (W (rotr (r.e) 11)) → K (a.put (some 208) v) W2 := fun v W2 h1 h2 => hK v W2 h1 (fun d hd => by cases hd; exact h2)
      clear hl
      have hs := rotr_one (r.e) 11 (by decide) (by decide) W1
      simp only [Array.getD_eq_getD_getElem?] at h207
      go_simp
      refine hs.mono ?_
      rintro e W2 ⟨rfl, N, rfl⟩
      exact hK _ _ ⟨N, rfl⟩ rfl
    · as_aux_lemma =>
      refine UpOb.plain rfl fun a W1 hR hl K hK => ?_
      have hD : DR w0 W1 := HDR.out.trans hR
      have h204 : a.tmps.getD 204 undef = (W (rotr (r.e) 6)) := hl 204 (by decide)
      have h208 : a.tmps.getD 208 undef = (W (rotr (r.e) 11)) := hl 208 (by decide)
      replace hK : ∀ v W2, DR W1 W2 → v = (W ((rotr (r.e) 6) ^^^ (rotr (r.e) 11))) → K (a.put (some 209) v) W2 := fun v W2 h1 h2 => hK v W2 h1 (fun d hd => by cases hd; exact h2)
      clear hl
      simp only [Array.getD_eq_getD_getElem?] at h204 h208
      go_simp
      exact hK _ W1 (DR.refl W1) rfl
    · as_aux_lemma =>
      refine UpOb.plain rfl fun a W1 hR hl K hK => ?_
      have hD : DR w0 W1 := HDR.out.trans hR
      have h14 : a.tmps.getD 14 undef = (.slice (some ⟨vb, 0, none⟩) 8 8) := hl 14 (by decide)
      replace hK : ∀ v W2, DR W1 W2 → v = (.slice (some ⟨vb, 0, none⟩) 8 8) → K (a.put (some 210) v) W2 := fun v W2 h1 h2 => hK v W2 h1 (fun d hd => by cases hd; exact h2)
      clear hl
      simp only [Array.getD_eq_getD_getElem?] at h14
      go_simp
      exact hK _ W1 (DR.refl W1) rfl
    · as_aux_lemma =>
      refine UpOb.plain rfl fun a W1 hR hl K hK => ?_
      have hD : DR w0 W1 := HDR.out.trans hR
      have h210 : a.tmps.getD 210 undef = (.slice (some ⟨vb, 0, none⟩) 8 8) := hl 210 (by decide)
      replace hK : ∀ v W2, DR W1 W2 → v = (.pointer (some ⟨vb, 4, none⟩)) → K (a.put (some 211) v) W2 := fun v W2 h1 h2 => hK v W2 h1 (fun d hd => by cases hd; exact h2)
      clear hl
      simp only [Array.getD_eq_getD_getElem?] at h210
      go_simp
      exact hK _ W1 (DR.refl W1) rfl
    · as_aux_lemma =>
      refine UpOb.plain rfl fun a W1 hR hl K hK => ?_
      have hD : DR w0 W1 := HDR.out.trans hR
      have h211 : a.tmps.getD 211 undef = (.pointer (some ⟨vb, 4, none⟩)) := hl 211 (by decide)
      replace hK : ∀ v W2, DR W1 W2 → v = (W r.e) → K (a.put (some 212) v) W2 := fun v W2 h1 h2 => hK v W2 h1 (fun d hd => by cases hd; exact h2)
      clear hl
      have hc : W1.cell? ⟨vb, 4, none⟩ = some (W r.e) := (hD.cell _).trans ((HV.out.cell 4).trans rfl)
      simp only [Array.getD_eq_getD_getElem?] at h211
      go_simp
      exact hK _ W1 (DR.refl W1) rfl
    · as_aux_lemma =>
      refine UpOb.plain rfl fun a W1 hR hl K hK => ?_
      have hD : DR w0 W1 := HDR.out.trans hR
      have h212 : a.tmps.getD 212 undef = (W r.e) := hl 212 (by decide)
      replace hK : ∀ v W2, DR W1 W2 → v = (W (rotr (r.e) 25)) → K (a.put (some 213) v) W2 := fun v W2 h1 h2 => hK v W2 h1 (fun d hd => by cases hd; exact h2)
      clear hl
      have hs := rotr_one (r.e) 25 (by decide) (by decide) W1
      simp only [Array.getD_eq_getD_getElem?] at h212
      go_simp
      refine hs.mono ?_
      rintro e W2 ⟨rfl, N, rfl⟩
      exact hK _ _ ⟨N, rfl⟩ rfl
    · as_aux_lemma =>
      refine UpOb.plain rfl fun a W1 hR hl K hK => ?_
      have hD : DR w0 W1 := HDR.out.trans hR
      have h209 : a.tmps.getD 209 undef = (W ((rotr (r.e) 6) ^^^ (rotr (r.e) 11))) := hl 209 (by decide)
      have h213 : a.tmps.getD 213 undef = (W (rotr (r.e) 25)) := hl 213 (by decide)
      replace hK : ∀ v W2, DR W1 W2 → v = (W (((rotr (r.e) 6) ^^^ (rotr (r.e) 11)) ^^^ (rotr (r.e) 25))) → K (a.put (some 214) v) W2 := fun v W2 h1 h2 => hK v W2 h1 (fun d hd => by cases hd; exact h2)
      clear hl
      simp only [Array.getD_eq_getD_getElem?] at h209 h213
      go_simp
      exact hK _ W1 (DR.refl W1) rfl
    · as_aux_lemma =>
      refine UpOb.plain rfl fun a W1 hR hl K hK => ?_
      have hD : DR w0 W1 := HDR.out.trans hR
      have h214 : a.tmps.getD 214 undef = (W (((rotr (r.e) 6) ^^^ (rotr (r.e) 11)) ^^^ (rotr (r.e) 25))) := hl 214 (by decide)
      replace hK : ∀ v W2, DR W1 W2 → v = (W (((rotr (r.e) 6) ^^^ (rotr (r.e) 11)) ^^^ (rotr (r.e) 25))) → K (a.put (some 16) v) W2 := fun v W2 h1 h2 => hK v W2 h1 (fun d hd => by cases hd; exact h2)
      clear hl
      simp only [Array.getD_eq_getD_getElem?] at h214
      go_simp
      exact hK _ W1 (DR.refl W1) rfl
  · intro w3 hW
    replace hW : DR w0 w3 := HDR.out.trans hW
    have Hw3 := Lib.hid hW
    clear hW
    simp only [filled, List.foldl, List.setIfInBounds_toArray, List.set, List.drop_succ_cons, List.drop_zero]
    go_wp2
    exact HQ.out _ _ _ _ _ _ _ _ _ _ _ _ _ _ w3 Hw3.out

noncomputable def code31 : Code := (Tryd.f8.body.bind (regOf 31)).getD .skip
attribute [local irreducible] wpList in
set_option maxRecDepth 100000 in
set_option maxHeartbeats 4000000 in
theorem reg31 (hb wb vb j : Nat) (r : St) (kx sx : UInt32) (w0 w1 : World) (Q : Exit → Act → World → Prop) (u0 u1 u2 u3 u4 u5 u6 u8 u10 u11 u12 u13 u16 u17 u18 u19 u20 u21 u22 u23 u24 u25 u26 u27 u28 u29 u30 u31 u32 u33 u34 u35 u36 u37 u38 u39 u40 u41 u42 u43 u44 u45 u46 u47 u48 u49 u50 u51 u52 u53 u54 u55 u56 u57 u58 u59 u60 u61 u62 u63 u64 u65 u66 u67 u68 u69 u70 u71 u72 u73 u74 u75 u76 u77 u78 u79 u80 u81 u82 u83 u84 u85 u86 u87 u88 u89 u90 u91 u92 u93 u94 u95 u96 u97 u98 u99 u100 u101 u102 u103 u104 u105 u106 u107 u108 u109 u110 u111 u112 u113 u114 u115 u116 u117 u118 u119 u120 u121 u122 u123 u124 u125 u126 u127 u128 u129 u130 u131 u132 u133 u134 u135 u136 u137 u138 u139 u140 u141 u142 u143 u144 u145 u146 u147 u148 u149 u150 u151 u152 u153 u154 u155 u156 u157 u158 u159 u160 u161 u162 u163 u164 u165 u166 u167 u168 u169 u170 u171 u172 u173 u174 u175 u176 u177 u178 u179 u180 u181 u182 u183 u184 u185 u186 u187 u188 u189 u190 u191 u192 u193 u194 u195 u196 u197 u198 u199 u200 u201 u202 u203 u204 u205 u206 u207 u208 u209 u210 u211 u212 u213 u214 u215 u216 u217 u218 u219 u220 u221 u222 u223 u224 u225 u226 u227 u228 u229 u230 u231 u232 u233 u234 u235 u236 u237 u238 u239 u240 u241 u242 u243 u244 u245 u246 u247 u248 u249 u250 u251 u252 u253 u254 u255 u256 u257 u258 u259 u260 u261 u262 u263 u264 u265 u266 u267 u268 u269 u270 u271 u272 u273 u274 u275 u276 u277 u278 u279 u280 u281 u282 u283 u284 u285 u286 u287 u288 u289 u290 u291 u292 u293 u294 u295 u296 u297 u298 u299 u300 u301 u302 u303 u304 u305 u306 u307 u308 u309 u310 u311 u312 u313 u314 u315 u316 u317 u318 u319 u320 u321 u322 u323 u324 u325 u326 u327 u328 u329 u330 u331 u332 u333 u334 u335 u336 u337 u338 u339 u340 u341 u342 u343 u344 u345 u346 u347 u348 u349 u350 u351 u352 u353 u354 u355 u356 u357 u358 u359 u360 u361 u362 u363 u364 u365 u366 u367 u368 u369 u370 u371 u372 u373 : Value)
    (hd : DR w0 w1) (hv : Blk w0 vb 52 (r.list.map W).toArray) (hkj : w0.cell? ⟨hb + 1, j, none⟩ = some (W kx)) (hsj : w0.cell? ⟨wb, j, none⟩ = some (W sx)) (hj : j < 64)
    (hq : ∀ (n215 n216 n217 n218 n219 n220 n221 n222 n223 n224 n225 n226 n227 n228 n229 n230 : Value) (w' : World), DR w0 w' → Q .normal ⟨#[u0, u1, u2, u3, u4, u5, u6, .slice (some ⟨hb + 1, 0, none⟩) 64 64, u8, .slice (some ⟨wb, 0, none⟩) 64 64, u10, u11, u12, u13, .slice (some ⟨vb, 0, none⟩) 8 8, .int .i64 (j : Int), u16, W ((r.e &&& r.f) ^^^ ((4294967295 - r.e) &&& r.g)), u18, u19, u20, u21, u22, u23, u24, u25, u26, u27, u28, u29, u30, u31, u32, u33, u34, u35, u36, u37, u38, u39, u40, u41, u42, u43, u44, u45, u46, u47, u48, u49, u50, u51, u52, u53, u54, u55, u56, u57, u58, u59, u60, u61, u62, u63, u64, u65, u66, u67, u68, u69, u70, u71, u72, u73, u74, u75, u76, u77, u78, u79, u80, u81, u82, u83, u84, u85, u86, u87, u88, u89, u90, u91, u92, u93, u94, u95, u96, u97, u98, u99, u100, u101, u102, u103, u104, u105, u106, u107, u108, u109, u110, u111, u112, u113, u114, u115, u116, u117, u118, u119, u120, u121, u122, u123, u124, u125, u126, u127, u128, u129, u130, u131, u132, u133, u134, u135, u136, u137, u138, u139, u140, u141, u142, u143, u144, u145, u146, u147, u148, u149, u150, u151, u152, u153, u154, u155, u156, u157, u158, u159, u160, u161, u162, u163, u164, u165, u166, u167, u168, u169, u170, u171, u172, u173, u174, u175, u176, u177, u178, u179, u180, u181, u182, u183, u184, u185, u186, u187, u188, u189, u190, u191, u192, u193, u194, u195, u196, u197, u198, u199, u200, u201, u202, u203, u204, u205, u206, u207, u208, u209, u210, u211, u212, u213, u214, n215, n216, n217, n218, n219, n220, n221, n222, n223, n224, n225, n226, n227, n228, n229, n230, u231, u232, u233, u234, u235, u236, u237, u238, u239, u240, u241, u242, u243, u244, u245, u246, u247, u248, u249, u250, u251, u252, u253, u254, u255, u256, u257, u258, u259, u260, u261, u262, u263, u264, u265, u266, u267, u268, u269, u270, u271, u272, u273, u274, u275, u276, u277, u278, u279, u280, u281, u282, u283, u284, u285, u286, u287, u288, u289, u290, u291, u292, u293, u294, u295, u296, u297, u298, u299, u300, u301, u302, u303, u304, u305, u306, u307, u308, u309, u310, u311, u312, u313, u314, u315, u316, u317, u318, u319, u320, u321, u322, u323, u324, u325, u326, u327, u328, u329, u330, u331, u332, u333, u334, u335, u336, u337, u338, u339, u340, u341, u342, u343, u344, u345, u346, u347, u348, u349, u350, u351, u352, u353, u354, u355, u356, u357, u358, u359, u360, u361, u362, u363, u364, u365, u366, u367, u368, u369, u370, u371, u372, u373], []⟩ w') :
    Code.wp Tryd.prog code31 Q ⟨#[u0, u1, u2, u3, u4, u5, u6, .slice (some ⟨hb + 1, 0, none⟩) 64 64, u8, .slice (some ⟨wb, 0, none⟩) 64 64, u10, u11, u12, u13, .slice (some ⟨vb, 0, none⟩) 8 8, .int .i64 (j : Int), u16, u17, u18, u19, u20, u21, u22, u23, u24, u25, u26, u27, u28, u29, u30, u31, u32, u33, u34, u35, u36, u37, u38, u39, u40, u41, u42, u43, u44, u45, u46, u47, u48, u49, u50, u51, u52, u53, u54, u55, u56, u57, u58, u59, u60, u61, u62, u63, u64, u65, u66, u67, u68, u69, u70, u71, u72, u73, u74, u75, u76, u77, u78, u79, u80, u81, u82, u83, u84, u85, u86, u87, u88, u89, u90, u91, u92, u93, u94, u95, u96, u97, u98, u99, u100, u101, u102, u103, u104, u105, u106, u107, u108, u109, u110, u111, u112, u113, u114, u115, u116, u117, u118, u119, u120, u121, u122, u123, u124, u125, u126, u127, u128, u129, u130, u131, u132, u133, u134, u135, u136, u137, u138, u139, u140, u141, u142, u143, u144, u145, u146, u147, u148, u149, u150, u151, u152, u153, u154, u155, u156, u157, u158, u159, u160, u161, u162, u163, u164, u165, u166, u167, u168, u169, u170, u171, u172, u173, u174, u175, u176, u177, u178, u179, u180, u181, u182, u183, u184, u185, u186, u187, u188, u189, u190, u191, u192, u193, u194, u195, u196, u197, u198, u199, u200, u201, u202, u203, u204, u205, u206, u207, u208, u209, u210, u211, u212, u213, u214, u215, u216, u217, u218, u219, u220, u221, u222, u223, u224, u225, u226, u227, u228, u229, u230, u231, u232, u233, u234, u235, u236, u237, u238, u239, u240, u241, u242, u243, u244, u245, u246, u247, u248, u249, u250, u251, u252, u253, u254, u255, u256, u257, u258, u259, u260, u261, u262, u263, u264, u265, u266, u267, u268, u269, u270, u271, u272, u273, u274, u275, u276, u277, u278, u279, u280, u281, u282, u283, u284, u285, u286, u287, u288, u289, u290, u291, u292, u293, u294, u295, u296, u297, u298, u299, u300, u301, u302, u303, u304, u305, u306, u307, u308, u309, u310, u311, u312, u313, u314, u315, u316, u317, u318, u319, u320, u321, u322, u323, u324, u325, u326, u327, u328, u329, u330, u331, u332, u333, u334, u335, u336, u337, u338, u339, u340, u341, u342, u343, u344, u345, u346, u347, u348, u349, u350, u351, u352, u353, u354, u355, u356, u357, u358, u359, u360, u361, u362, u363, u364, u365, u366, u367, u368, u369, u370, u371, u372, u373], []⟩ w1 := by
  have HV := Lib.hid hv
  have HKJ := Lib.hid hkj
  have HSJ := Lib.hid hsj
  have HQ := Lib.hid hq
  have HDR := Lib.hid (hd.trans (DR.drew w1))
  have hj64 : (j : Int) < 64 := by omega
  have s6 := run_and
  have s7 := run_subF
  have s1 := run_xor
  have s5 := run_add
  clear hv hkj hsj hq hd
  conv => arg 2; whnf
  refine wp_region_pre (by kernel_rfl) (R := DR) DR.refl (fun _ _ _ h k => h.trans k) 17 [[14], [215], [216], [14], [218], [219], [217, 220], [14], [222], [223], [224], [14], [226], [227], [225, 228], [221, 229], [230]]
    [(215, .slice (some ⟨vb, 0, none⟩) 8 8), (216, .pointer (some ⟨vb, 4, none⟩)), (217, W r.e), (218, .slice (some ⟨vb, 0, none⟩) 8 8), (219, .pointer (some ⟨vb, 5, none⟩)), (220, W r.f), (221, W (r.e &&& r.f)), (222, .slice (some ⟨vb, 0, none⟩) 8 8), (223, .pointer (some ⟨vb, 4, none⟩)), (224, W r.e), (225, W (4294967295 - r.e)), (226, .slice (some ⟨vb, 0, none⟩) 8 8), (227, .pointer (some ⟨vb, 6, none⟩)), (228, W r.g), (229, W ((4294967295 - r.e) &&& r.g)), (230, W ((r.e &&& r.f) ^^^ ((4294967295 - r.e) &&& r.g))), (17, W ((r.e &&& r.f) ^^^ ((4294967295 - r.e) &&& r.g)))]
    374 rfl (by decide) (by kernel_rfl) (by kernel_rfl) (by simp) (by kernel_rfl) (by kernel_rfl) ?_ ?_
  · refine ⟨?_, ?_, ?_, ?_, ?_, ?_, ?_, ?_, ?_, ?_, ?_, ?_, ?_, ?_, ?_, ?_, ?_, trivial⟩
    · as_aux_lemma =>
      refine UpOb.plain rfl fun a W1 hR hl K hK => ?_
      have hD : DR w0 W1 := HDR.out.trans hR
      have h14 : a.tmps.getD 14 undef = (.slice (some ⟨vb, 0, none⟩) 8 8) := hl 14 (by decide)
      replace hK : ∀ v W2, DR W1 W2 → v = (.slice (some ⟨vb, 0, none⟩) 8 8) → K (a.put (some 215) v) W2 := fun v W2 h1 h2 => hK v W2 h1 (fun d hd => by cases hd; exact h2)
      clear hl
      simp only [Array.getD_eq_getD_getElem?] at h14
      go_simp
      exact hK _ W1 (DR.refl W1) rfl
    · as_aux_lemma =>
      refine UpOb.plain rfl fun a W1 hR hl K hK => ?_
      have hD : DR w0 W1 := HDR.out.trans hR
      have h215 : a.tmps.getD 215 undef = (.slice (some ⟨vb, 0, none⟩) 8 8) := hl 215 (by decide)
      replace hK : ∀ v W2, DR W1 W2 → v = (.pointer (some ⟨vb, 4, none⟩)) → K (a.put (some 216) v) W2 := fun v W2 h1 h2 => hK v W2 h1 (fun d hd => by cases hd; exact h2)
      clear hl
      simp only [Array.getD_eq_getD_getElem?] at h215
      go_simp
      exact hK _ W1 (DR.refl W1) rfl
    · as_aux_lemma =>
      refine UpOb.plain rfl fun a W1 hR hl K hK => ?_
      have hD : DR w0 W1 := HDR.out.trans hR
      have h216 : a.tmps.getD 216 undef = (.pointer (some ⟨vb, 4, none⟩)) := hl 216 (by decide)
      replace hK : ∀ v W2, DR W1 W2 → v = (W r.e) → K (a.put (some 217) v) W2 := fun v W2 h1 h2 => hK v W2 h1 (fun d hd => by cases hd; exact h2)
      clear hl
      have hc : W1.cell? ⟨vb, 4, none⟩ = some (W r.e) := (hD.cell _).trans ((HV.out.cell 4).trans rfl)
      simp only [Array.getD_eq_getD_getElem?] at h216
      go_simp
      exact hK _ W1 (DR.refl W1) rfl
    · as_aux_lemma =>
      refine UpOb.plain rfl fun a W1 hR hl K hK => ?_
      have hD : DR w0 W1 := HDR.out.trans hR
      have h14 : a.tmps.getD 14 undef = (.slice (some ⟨vb, 0, none⟩) 8 8) := hl 14 (by decide)
      replace hK : ∀ v W2, DR W1 W2 → v = (.slice (some ⟨vb, 0, none⟩) 8 8) → K (a.put (some 218) v) W2 := fun v W2 h1 h2 => hK v W2 h1 (fun d hd => by cases hd; exact h2)
      clear hl
      simp only [Array.getD_eq_getD_getElem?] at h14
      go_simp
      exact hK _ W1 (DR.refl W1) rfl
    · as_aux_lemma =>
      refine UpOb.plain rfl fun a W1 hR hl K hK => ?_
      have hD : DR w0 W1 := HDR.out.trans hR
      have h218 : a.tmps.getD 218 undef = (.slice (some ⟨vb, 0, none⟩) 8 8) := hl 218 (by decide)
      replace hK : ∀ v W2, DR W1 W2 → v = (.pointer (some ⟨vb, 5, none⟩)) → K (a.put (some 219) v) W2 := fun v W2 h1 h2 => hK v W2 h1 (fun d hd => by cases hd; exact h2)
      clear hl
      simp only [Array.getD_eq_getD_getElem?] at h218
      go_simp
      exact hK _ W1 (DR.refl W1) rfl
    · as_aux_lemma =>
      refine UpOb.plain rfl fun a W1 hR hl K hK => ?_
      have hD : DR w0 W1 := HDR.out.trans hR
      have h219 : a.tmps.getD 219 undef = (.pointer (some ⟨vb, 5, none⟩)) := hl 219 (by decide)
      replace hK : ∀ v W2, DR W1 W2 → v = (W r.f) → K (a.put (some 220) v) W2 := fun v W2 h1 h2 => hK v W2 h1 (fun d hd => by cases hd; exact h2)
      clear hl
      have hc : W1.cell? ⟨vb, 5, none⟩ = some (W r.f) := (hD.cell _).trans ((HV.out.cell 5).trans rfl)
      simp only [Array.getD_eq_getD_getElem?] at h219
      go_simp
      exact hK _ W1 (DR.refl W1) rfl
    · as_aux_lemma =>
      refine UpOb.plain rfl fun a W1 hR hl K hK => ?_
      have hD : DR w0 W1 := HDR.out.trans hR
      have h217 : a.tmps.getD 217 undef = (W r.e) := hl 217 (by decide)
      have h220 : a.tmps.getD 220 undef = (W r.f) := hl 220 (by decide)
      replace hK : ∀ v W2, DR W1 W2 → v = (W (r.e &&& r.f)) → K (a.put (some 221) v) W2 := fun v W2 h1 h2 => hK v W2 h1 (fun d hd => by cases hd; exact h2)
      clear hl
      simp only [Array.getD_eq_getD_getElem?] at h217 h220
      go_simp
      exact hK _ W1 (DR.refl W1) rfl
    · as_aux_lemma =>
      refine UpOb.plain rfl fun a W1 hR hl K hK => ?_
      have hD : DR w0 W1 := HDR.out.trans hR
      have h14 : a.tmps.getD 14 undef = (.slice (some ⟨vb, 0, none⟩) 8 8) := hl 14 (by decide)
      replace hK : ∀ v W2, DR W1 W2 → v = (.slice (some ⟨vb, 0, none⟩) 8 8) → K (a.put (some 222) v) W2 := fun v W2 h1 h2 => hK v W2 h1 (fun d hd => by cases hd; exact h2)
      clear hl
      simp only [Array.getD_eq_getD_getElem?] at h14
      go_simp
      exact hK _ W1 (DR.refl W1) rfl
    · as_aux_lemma =>
      refine UpOb.plain rfl fun a W1 hR hl K hK => ?_
      have hD : DR w0 W1 := HDR.out.trans hR
      have h222 : a.tmps.getD 222 undef = (.slice (some ⟨vb, 0, none⟩) 8 8) := hl 222 (by decide)
      replace hK : ∀ v W2, DR W1 W2 → v = (.pointer (some ⟨vb, 4, none⟩)) → K (a.put (some 223) v) W2 := fun v W2 h1 h2 => hK v W2 h1 (fun d hd => by cases hd; exact h2)
      clear hl
      simp only [Array.getD_eq_getD_getElem?] at h222
      go_simp
      exact hK _ W1 (DR.refl W1) rfl
    · as_aux_lemma =>
      refine UpOb.plain rfl fun a W1 hR hl K hK => ?_
      have hD : DR w0 W1 := HDR.out.trans hR
      have h223 : a.tmps.getD 223 undef = (.pointer (some ⟨vb, 4, none⟩)) := hl 223 (by decide)
      replace hK : ∀ v W2, DR W1 W2 → v = (W r.e) → K (a.put (some 224) v) W2 := fun v W2 h1 h2 => hK v W2 h1 (fun d hd => by cases hd; exact h2)
      clear hl
      have hc : W1.cell? ⟨vb, 4, none⟩ = some (W r.e) := (hD.cell _).trans ((HV.out.cell 4).trans rfl)
      simp only [Array.getD_eq_getD_getElem?] at h223
      go_simp
      exact hK _ W1 (DR.refl W1) rfl
    · as_aux_lemma =>
      refine UpOb.plain rfl fun a W1 hR hl K hK => ?_
      have hD : DR w0 W1 := HDR.out.trans hR
      have h224 : a.tmps.getD 224 undef = (W r.e) := hl 224 (by decide)
      replace hK : ∀ v W2, DR W1 W2 → v = (W (4294967295 - r.e)) → K (a.put (some 225) v) W2 := fun v W2 h1 h2 => hK v W2 h1 (fun d hd => by cases hd; exact h2)
      clear hl
      simp only [Array.getD_eq_getD_getElem?] at h224
      go_simp
      exact hK _ W1 (DR.refl W1) rfl
    · as_aux_lemma =>
      refine UpOb.plain rfl fun a W1 hR hl K hK => ?_
      have hD : DR w0 W1 := HDR.out.trans hR
      have h14 : a.tmps.getD 14 undef = (.slice (some ⟨vb, 0, none⟩) 8 8) := hl 14 (by decide)
      replace hK : ∀ v W2, DR W1 W2 → v = (.slice (some ⟨vb, 0, none⟩) 8 8) → K (a.put (some 226) v) W2 := fun v W2 h1 h2 => hK v W2 h1 (fun d hd => by cases hd; exact h2)
      clear hl
      simp only [Array.getD_eq_getD_getElem?] at h14
      go_simp
      exact hK _ W1 (DR.refl W1) rfl
    · as_aux_lemma =>
      refine UpOb.plain rfl fun a W1 hR hl K hK => ?_
      have hD : DR w0 W1 := HDR.out.trans hR
      have h226 : a.tmps.getD 226 undef = (.slice (some ⟨vb, 0, none⟩) 8 8) := hl 226 (by decide)
      replace hK : ∀ v W2, DR W1 W2 → v = (.pointer (some ⟨vb, 6, none⟩)) → K (a.put (some 227) v) W2 := fun v W2 h1 h2 => hK v W2 h1 (fun d hd => by cases hd; exact h2)
      clear hl
      simp only [Array.getD_eq_getD_getElem?] at h226
      go_simp
      exact hK _ W1 (DR.refl W1) rfl
    · as_aux_lemma =>
      refine UpOb.plain rfl fun a W1 hR hl K hK => ?_
      have hD : DR w0 W1 := HDR.out.trans hR
      have h227 : a.tmps.getD 227 undef = (.pointer (some ⟨vb, 6, none⟩)) := hl 227 (by decide)
      replace hK : ∀ v W2, DR W1 W2 → v = (W r.g) → K (a.put (some 228) v) W2 := fun v W2 h1 h2 => hK v W2 h1 (fun d hd => by cases hd; exact h2)
      clear hl
      have hc : W1.cell? ⟨vb, 6, none⟩ = some (W r.g) := (hD.cell _).trans ((HV.out.cell 6).trans rfl)
      simp only [Array.getD_eq_getD_getElem?] at h227
      go_simp
      exact hK _ W1 (DR.refl W1) rfl
    · as_aux_lemma =>
      refine UpOb.plain rfl fun a W1 hR hl K hK => ?_
      have hD : DR w0 W1 := HDR.out.trans hR
      have h225 : a.tmps.getD 225 undef = (W (4294967295 - r.e)) := hl 225 (by decide)
      have h228 : a.tmps.getD 228 undef = (W r.g) := hl 228 (by decide)
      replace hK : ∀ v W2, DR W1 W2 → v = (W ((4294967295 - r.e) &&& r.g)) → K (a.put (some 229) v) W2 := fun v W2 h1 h2 => hK v W2 h1 (fun d hd => by cases hd; exact h2)
      clear hl
      simp only [Array.getD_eq_getD_getElem?] at h225 h228
      go_simp
      exact hK _ W1 (DR.refl W1) rfl
    · as_aux_lemma =>
      refine UpOb.plain rfl fun a W1 hR hl K hK => ?_
      have hD : DR w0 W1 := HDR.out.trans hR
      have h221 : a.tmps.getD 221 undef = (W (r.e &&& r.f)) := hl 221 (by decide)
      have h229 : a.tmps.getD 229 undef = (W ((4294967295 - r.e) &&& r.g)) := hl 229 (by decide)
      replace hK : ∀ v W2, DR W1 W2 → v = (W ((r.e &&& r.f) ^^^ ((4294967295 - r.e) &&& r.g))) → K (a.put (some 230) v) W2 := fun v W2 h1 h2 => hK v W2 h1 (fun d hd => by cases hd; exact h2)
      clear hl
      simp only [Array.getD_eq_getD_getElem?] at h221 h229
      go_simp
      exact hK _ W1 (DR.refl W1) rfl
    · as_aux_lemma =>
      refine UpOb.plain rfl fun a W1 hR hl K hK => ?_
      have hD : DR w0 W1 := HDR.out.trans hR
      have h230 : a.tmps.getD 230 undef = (W ((r.e &&& r.f) ^^^ ((4294967295 - r.e) &&& r.g))) := hl 230 (by decide)
      replace hK : ∀ v W2, DR W1 W2 → v = (W ((r.e &&& r.f) ^^^ ((4294967295 - r.e) &&& r.g))) → K (a.put (some 17) v) W2 := fun v W2 h1 h2 => hK v W2 h1 (fun d hd => by cases hd; exact h2)
      clear hl
      simp only [Array.getD_eq_getD_getElem?] at h230
      go_simp
      exact hK _ W1 (DR.refl W1) rfl
  · intro w3 hW
    replace hW : DR w0 w3 := HDR.out.trans hW
    have Hw3 := Lib.hid hW
    clear hW
    simp only [filled, List.foldl, List.setIfInBounds_toArray, List.set, List.drop_succ_cons, List.drop_zero]
    go_wp2
    exact HQ.out _ _ _ _ _ _ _ _ _ _ _ _ _ _ _ _ w3 Hw3.out

noncomputable def code32 : Code := (Tryd.f8.body.bind (regOf 32)).getD .skip
attribute [local irreducible] wpList in
set_option maxRecDepth 100000 in
set_option maxHeartbeats 4000000 in
theorem reg32 (hb wb vb j : Nat) (r : St) (kx sx y16 y17 : UInt32) (w0 w1 : World) (Q : Exit → Act → World → Prop) (u0 u1 u2 u3 u4 u5 u6 u8 u10 u11 u12 u13 u18 u19 u20 u21 u22 u23 u24 u25 u26 u27 u28 u29 u30 u31 u32 u33 u34 u35 u36 u37 u38 u39 u40 u41 u42 u43 u44 u45 u46 u47 u48 u49 u50 u51 u52 u53 u54 u55 u56 u57 u58 u59 u60 u61 u62 u63 u64 u65 u66 u67 u68 u69 u70 u71 u72 u73 u74 u75 u76 u77 u78 u79 u80 u81 u82 u83 u84 u85 u86 u87 u88 u89 u90 u91 u92 u93 u94 u95 u96 u97 u98 u99 u100 u101 u102 u103 u104 u105 u106 u107 u108 u109 u110 u111 u112 u113 u114 u115 u116 u117 u118 u119 u120 u121 u122 u123 u124 u125 u126 u127 u128 u129 u130 u131 u132 u133 u134 u135 u136 u137 u138 u139 u140 u141 u142 u143 u144 u145 u146 u147 u148 u149 u150 u151 u152 u153 u154 u155 u156 u157 u158 u159 u160 u161 u162 u163 u164 u165 u166 u167 u168 u169 u170 u171 u172 u173 u174 u175 u176 u177 u178 u179 u180 u181 u182 u183 u184 u185 u186 u187 u188 u189 u190 u191 u192 u193 u194 u195 u196 u197 u198 u199 u200 u201 u202 u203 u204 u205 u206 u207 u208 u209 u210 u211 u212 u213 u214 u215 u216 u217 u218 u219 u220 u221 u222 u223 u224 u225 u226 u227 u228 u229 u230 u231 u232 u233 u234 u235 u236 u237 u238 u239 u240 u241 u242 u243 u244 u245 u246 u247 u248 u249 u250 u251 u252 u253 u254 u255 u256 u257 u258 u259 u260 u261 u262 u263 u264 u265 u266 u267 u268 u269 u270 u271 u272 u273 u274 u275 u276 u277 u278 u279 u280 u281 u282 u283 u284 u285 u286 u287 u288 u289 u290 u291 u292 u293 u294 u295 u296 u297 u298 u299 u300 u301 u302 u303 u304 u305 u306 u307 u308 u309 u310 u311 u312 u313 u314 u315 u316 u317 u318 u319 u320 u321 u322 u323 u324 u325 u326 u327 u328 u329 u330 u331 u332 u333 u334 u335 u336 u337 u338 u339 u340 u341 u342 u343 u344 u345 u346 u347 u348 u349 u350 u351 u352 u353 u354 u355 u356 u357 u358 u359 u360 u361 u362 u363 u364 u365 u366 u367 u368 u369 u370 u371 u372 u373 : Value)
    (hd : DR w0 w1) (hv : Blk w0 vb 52 (r.list.map W).toArray) (hkj : w0.cell? ⟨hb + 1, j, none⟩ = some (W kx)) (hsj : w0.cell? ⟨wb, j, none⟩ = some (W sx)) (hj : j < 64)
    (hq : ∀ (n231 n232 n233 n234 n235 n236 n237 n238 n239 n240 n241 n242 n243 n244 n245 n246 n247 : Value) (w' : World), DR w0 w' → Q .normal ⟨#[u0, u1, u2, u3, u4, u5, u6, .slice (some ⟨hb + 1, 0, none⟩) 64 64, u8, .slice (some ⟨wb, 0, none⟩) 64 64, u10, u11, u12, u13, .slice (some ⟨vb, 0, none⟩) 8 8, .int .i64 (j : Int), W y16, W y17, W ((((r.h + y16) + y17) + kx) + sx), u19, u20, u21, u22, u23, u24, u25, u26, u27, u28, u29, u30, u31, u32, u33, u34, u35, u36, u37, u38, u39, u40, u41, u42, u43, u44, u45, u46, u47, u48, u49, u50, u51, u52, u53, u54, u55, u56, u57, u58, u59, u60, u61, u62, u63, u64, u65, u66, u67, u68, u69, u70, u71, u72, u73, u74, u75, u76, u77, u78, u79, u80, u81, u82, u83, u84, u85, u86, u87, u88, u89, u90, u91, u92, u93, u94, u95, u96, u97, u98, u99, u100, u101, u102, u103, u104, u105, u106, u107, u108, u109, u110, u111, u112, u113, u114, u115, u116, u117, u118, u119, u120, u121, u122, u123, u124, u125, u126, u127, u128, u129, u130, u131, u132, u133, u134, u135, u136, u137, u138, u139, u140, u141, u142, u143, u144, u145, u146, u147, u148, u149, u150, u151, u152, u153, u154, u155, u156, u157, u158, u159, u160, u161, u162, u163, u164, u165, u166, u167, u168, u169, u170, u171, u172, u173, u174, u175, u176, u177, u178, u179, u180, u181, u182, u183, u184, u185, u186, u187, u188, u189, u190, u191, u192, u193, u194, u195, u196, u197, u198, u199, u200, u201, u202, u203, u204, u205, u206, u207, u208, u209, u210, u211, u212, u213, u214, u215, u216, u217, u218, u219, u220, u221, u222, u223, u224, u225, u226, u227, u228, u229, u230, n231, n232, n233, n234, n235, n236, n237, n238, n239, n240, n241, n242, n243, n244, n245, n246, n247, u248, u249, u250, u251, u252, u253, u254, u255, u256, u257, u258, u259, u260, u261, u262, u263, u264, u265, u266, u267, u268, u269, u270, u271, u272, u273, u274, u275, u276, u277, u278, u279, u280, u281, u282, u283, u284, u285, u286, u287, u288, u289, u290, u291, u292, u293, u294, u295, u296, u297, u298, u299, u300, u301, u302, u303, u304, u305, u306, u307, u308, u309, u310, u311, u312, u313, u314, u315, u316, u317, u318, u319, u320, u321, u322, u323, u324, u325, u326, u327, u328, u329, u330, u331, u332, u333, u334, u335, u336, u337, u338, u339, u340, u341, u342, u343, u344, u345, u346, u347, u348, u349, u350, u351, u352, u353, u354, u355, u356, u357, u358, u359, u360, u361, u362, u363, u364, u365, u366, u367, u368, u369, u370, u371, u372, u373], []⟩ w') :
    Code.wp Tryd.prog code32 Q ⟨#[u0, u1, u2, u3, u4, u5, u6, .slice (some ⟨hb + 1, 0, none⟩) 64 64, u8, .slice (some ⟨wb, 0, none⟩) 64 64, u10, u11, u12, u13, .slice (some ⟨vb, 0, none⟩) 8 8, .int .i64 (j : Int), W y16, W y17, u18, u19, u20, u21, u22, u23, u24, u25, u26, u27, u28, u29, u30, u31, u32, u33, u34, u35, u36, u37, u38, u39, u40, u41, u42, u43, u44, u45, u46, u47, u48, u49, u50, u51, u52, u53, u54, u55, u56, u57, u58, u59, u60, u61, u62, u63, u64, u65, u66, u67, u68, u69, u70, u71, u72, u73, u74, u75, u76, u77, u78, u79, u80, u81, u82, u83, u84, u85, u86, u87, u88, u89, u90, u91, u92, u93, u94, u95, u96, u97, u98, u99, u100, u101, u102, u103, u104, u105, u106, u107, u108, u109, u110, u111, u112, u113, u114, u115, u116, u117, u118, u119, u120, u121, u122, u123, u124, u125, u126, u127, u128, u129, u130, u131, u132, u133, u134, u135, u136, u137, u138, u139, u140, u141, u142, u143, u144, u145, u146, u147, u148, u149, u150, u151, u152, u153, u154, u155, u156, u157, u158, u159, u160, u161, u162, u163, u164, u165, u166, u167, u168, u169, u170, u171, u172, u173, u174, u175, u176, u177, u178, u179, u180, u181, u182, u183, u184, u185, u186, u187, u188, u189, u190, u191, u192, u193, u194, u195, u196, u197, u198, u199, u200, u201, u202, u203, u204, u205, u206, u207, u208, u209, u210, u211, u212, u213, u214, u215, u216, u217, u218, u219, u220, u221, u222, u223, u224, u225, u226, u227, u228, u229, u230, u231, u232, u233, u234, u235, u236, u237, u238, u239, u240, u241, u242, u243, u244, u245, u246, u247, u248, u249, u250, u251, u252, u253, u254, u255, u256, u257, u258, u259, u260, u261, u262, u263, u264, u265, u266, u267, u268, u269, u270, u271, u272, u273, u274, u275, u276, u277, u278, u279, u280, u281, u282, u283, u284, u285, u286, u287, u288, u289, u290, u291, u292, u293, u294, u295, u296, u297, u298, u299, u300, u301, u302, u303, u304, u305, u306, u307, u308, u309, u310, u311, u312, u313, u314, u315, u316, u317, u318, u319, u320, u321, u322, u323, u324, u325, u326, u327, u328, u329, u330, u331, u332, u333, u334, u335, u336, u337, u338, u339, u340, u341, u342, u343, u344, u345, u346, u347, u348, u349, u350, u351, u352, u353, u354, u355, u356, u357, u358, u359, u360, u361, u362, u363, u364, u365, u366, u367, u368, u369, u370, u371, u372, u373], []⟩ w1 := by
  have HV := Lib.hid hv
  have HKJ := Lib.hid hkj
  have HSJ := Lib.hid hsj
  have HQ := Lib.hid hq
  have HDR := Lib.hid (hd.trans (DR.drew w1))
  have hj64 : (j : Int) < 64 := by omega
  have s6 := run_and
  have s7 := run_subF
  have s1 := run_xor
  have s5 := run_add
  clear hv hkj hsj hq hd
  conv => arg 2; whnf
  refine wp_region_pre (by kernel_rfl) (R := DR) DR.refl (fun _ _ _ h k => h.trans k) 18 [[14], [231], [232], [16], [233, 234], [17], [235, 236], [7], [15], [238, 239], [240], [237, 241], [9], [15], [243, 244], [245], [242, 246], [247]]
    [(231, .slice (some ⟨vb, 0, none⟩) 8 8), (232, .pointer (some ⟨vb, 7, none⟩)), (233, W r.h), (234, W y16), (235, W (r.h + y16)), (236, W y17), (237, W ((r.h + y16) + y17)), (238, .slice (some ⟨hb + 1, 0, none⟩) 64 64), (239, .int .i64 (j : Int)), (240, .pointer (some ⟨hb + 1, j, none⟩)), (241, W kx), (242, W (((r.h + y16) + y17) + kx)), (243, .slice (some ⟨wb, 0, none⟩) 64 64), (244, .int .i64 (j : Int)), (245, .pointer (some ⟨wb, j, none⟩)), (246, W sx), (247, W ((((r.h + y16) + y17) + kx) + sx)), (18, W ((((r.h + y16) + y17) + kx) + sx))]
    374 rfl (by decide) (by kernel_rfl) (by kernel_rfl) (by simp) (by kernel_rfl) (by kernel_rfl) ?_ ?_
  · refine ⟨?_, ?_, ?_, ?_, ?_, ?_, ?_, ?_, ?_, ?_, ?_, ?_, ?_, ?_, ?_, ?_, ?_, ?_, trivial⟩
    · as_aux_lemma =>
      refine UpOb.plain rfl fun a W1 hR hl K hK => ?_
      have hD : DR w0 W1 := HDR.out.trans hR
      have h14 : a.tmps.getD 14 undef = (.slice (some ⟨vb, 0, none⟩) 8 8) := hl 14 (by decide)
      replace hK : ∀ v W2, DR W1 W2 → v = (.slice (some ⟨vb, 0, none⟩) 8 8) → K (a.put (some 231) v) W2 := fun v W2 h1 h2 => hK v W2 h1 (fun d hd => by cases hd; exact h2)
      clear hl
      simp only [Array.getD_eq_getD_getElem?] at h14
      go_simp
      exact hK _ W1 (DR.refl W1) rfl
    · as_aux_lemma =>
      refine UpOb.plain rfl fun a W1 hR hl K hK => ?_
      have hD : DR w0 W1 := HDR.out.trans hR
      have h231 : a.tmps.getD 231 undef = (.slice (some ⟨vb, 0, none⟩) 8 8) := hl 231 (by decide)
      replace hK : ∀ v W2, DR W1 W2 → v = (.pointer (some ⟨vb, 7, none⟩)) → K (a.put (some 232) v) W2 := fun v W2 h1 h2 => hK v W2 h1 (fun d hd => by cases hd; exact h2)
      clear hl
      simp only [Array.getD_eq_getD_getElem?] at h231
      go_simp
      exact hK _ W1 (DR.refl W1) rfl
    · as_aux_lemma =>
      refine UpOb.plain rfl fun a W1 hR hl K hK => ?_
      have hD : DR w0 W1 := HDR.out.trans hR
      have h232 : a.tmps.getD 232 undef = (.pointer (some ⟨vb, 7, none⟩)) := hl 232 (by decide)
      replace hK : ∀ v W2, DR W1 W2 → v = (W r.h) → K (a.put (some 233) v) W2 := fun v W2 h1 h2 => hK v W2 h1 (fun d hd => by cases hd; exact h2)
      clear hl
      have hc : W1.cell? ⟨vb, 7, none⟩ = some (W r.h) := (hD.cell _).trans ((HV.out.cell 7).trans rfl)
      simp only [Array.getD_eq_getD_getElem?] at h232
      go_simp
      exact hK _ W1 (DR.refl W1) rfl
    · as_aux_lemma =>
      refine UpOb.plain rfl fun a W1 hR hl K hK => ?_
      have hD : DR w0 W1 := HDR.out.trans hR
      have h16 : a.tmps.getD 16 undef = (W y16) := hl 16 (by decide)
      replace hK : ∀ v W2, DR W1 W2 → v = (W y16) → K (a.put (some 234) v) W2 := fun v W2 h1 h2 => hK v W2 h1 (fun d hd => by cases hd; exact h2)
      clear hl
      simp only [Array.getD_eq_getD_getElem?] at h16
      go_simp
      exact hK _ W1 (DR.refl W1) rfl
    · as_aux_lemma =>
      refine UpOb.plain rfl fun a W1 hR hl K hK => ?_
      have hD : DR w0 W1 := HDR.out.trans hR
      have h233 : a.tmps.getD 233 undef = (W r.h) := hl 233 (by decide)
      have h234 : a.tmps.getD 234 undef = (W y16) := hl 234 (by decide)
      replace hK : ∀ v W2, DR W1 W2 → v = (W (r.h + y16)) → K (a.put (some 235) v) W2 := fun v W2 h1 h2 => hK v W2 h1 (fun d hd => by cases hd; exact h2)
      clear hl
      simp only [Array.getD_eq_getD_getElem?] at h233 h234
      go_simp
      exact hK _ W1 (DR.refl W1) rfl
    · as_aux_lemma =>
      refine UpOb.plain rfl fun a W1 hR hl K hK => ?_
      have hD : DR w0 W1 := HDR.out.trans hR
      have h17 : a.tmps.getD 17 undef = (W y17) := hl 17 (by decide)
      replace hK : ∀ v W2, DR W1 W2 → v = (W y17) → K (a.put (some 236) v) W2 := fun v W2 h1 h2 => hK v W2 h1 (fun d hd => by cases hd; exact h2)
      clear hl
      simp only [Array.getD_eq_getD_getElem?] at h17
      go_simp
      exact hK _ W1 (DR.refl W1) rfl
    · as_aux_lemma =>
      refine UpOb.plain rfl fun a W1 hR hl K hK => ?_
      have hD : DR w0 W1 := HDR.out.trans hR
      have h235 : a.tmps.getD 235 undef = (W (r.h + y16)) := hl 235 (by decide)
      have h236 : a.tmps.getD 236 undef = (W y17) := hl 236 (by decide)
      replace hK : ∀ v W2, DR W1 W2 → v = (W ((r.h + y16) + y17)) → K (a.put (some 237) v) W2 := fun v W2 h1 h2 => hK v W2 h1 (fun d hd => by cases hd; exact h2)
      clear hl
      simp only [Array.getD_eq_getD_getElem?] at h235 h236
      go_simp
      exact hK _ W1 (DR.refl W1) rfl
    · as_aux_lemma =>
      refine UpOb.plain rfl fun a W1 hR hl K hK => ?_
      have hD : DR w0 W1 := HDR.out.trans hR
      have h7 : a.tmps.getD 7 undef = (.slice (some ⟨hb + 1, 0, none⟩) 64 64) := hl 7 (by decide)
      replace hK : ∀ v W2, DR W1 W2 → v = (.slice (some ⟨hb + 1, 0, none⟩) 64 64) → K (a.put (some 238) v) W2 := fun v W2 h1 h2 => hK v W2 h1 (fun d hd => by cases hd; exact h2)
      clear hl
      simp only [Array.getD_eq_getD_getElem?] at h7
      go_simp
      exact hK _ W1 (DR.refl W1) rfl
    · as_aux_lemma =>
      refine UpOb.plain rfl fun a W1 hR hl K hK => ?_
      have hD : DR w0 W1 := HDR.out.trans hR
      have h15 : a.tmps.getD 15 undef = (.int .i64 (j : Int)) := hl 15 (by decide)
      replace hK : ∀ v W2, DR W1 W2 → v = (.int .i64 (j : Int)) → K (a.put (some 239) v) W2 := fun v W2 h1 h2 => hK v W2 h1 (fun d hd => by cases hd; exact h2)
      clear hl
      simp only [Array.getD_eq_getD_getElem?] at h15
      go_simp
      exact hK _ W1 (DR.refl W1) rfl
    · as_aux_lemma =>
      refine UpOb.plain rfl fun a W1 hR hl K hK => ?_
      have hD : DR w0 W1 := HDR.out.trans hR
      have h238 : a.tmps.getD 238 undef = (.slice (some ⟨hb + 1, 0, none⟩) 64 64) := hl 238 (by decide)
      have h239 : a.tmps.getD 239 undef = (.int .i64 (j : Int)) := hl 239 (by decide)
      replace hK : ∀ v W2, DR W1 W2 → v = (.pointer (some ⟨hb + 1, j, none⟩)) → K (a.put (some 240) v) W2 := fun v W2 h1 h2 => hK v W2 h1 (fun d hd => by cases hd; exact h2)
      clear hl
      simp only [Array.getD_eq_getD_getElem?] at h238 h239
      go_simp
      exact hK _ W1 (DR.refl W1) rfl
    · as_aux_lemma =>
      refine UpOb.plain rfl fun a W1 hR hl K hK => ?_
      have hD : DR w0 W1 := HDR.out.trans hR
      have h240 : a.tmps.getD 240 undef = (.pointer (some ⟨hb + 1, j, none⟩)) := hl 240 (by decide)
      replace hK : ∀ v W2, DR W1 W2 → v = (W kx) → K (a.put (some 241) v) W2 := fun v W2 h1 h2 => hK v W2 h1 (fun d hd => by cases hd; exact h2)
      clear hl
      have hc : W1.cell? ⟨hb + 1, j, none⟩ = some (W kx) := (hD.cell _).trans (HKJ.out)
      simp only [Array.getD_eq_getD_getElem?] at h240
      go_simp
      exact hK _ W1 (DR.refl W1) rfl
    · as_aux_lemma =>
      refine UpOb.plain rfl fun a W1 hR hl K hK => ?_
      have hD : DR w0 W1 := HDR.out.trans hR
      have h237 : a.tmps.getD 237 undef = (W ((r.h + y16) + y17)) := hl 237 (by decide)
      have h241 : a.tmps.getD 241 undef = (W kx) := hl 241 (by decide)
      replace hK : ∀ v W2, DR W1 W2 → v = (W (((r.h + y16) + y17) + kx)) → K (a.put (some 242) v) W2 := fun v W2 h1 h2 => hK v W2 h1 (fun d hd => by cases hd; exact h2)
      clear hl
      simp only [Array.getD_eq_getD_getElem?] at h237 h241
      go_simp
      exact hK _ W1 (DR.refl W1) rfl
    · as_aux_lemma =>
      refine UpOb.plain rfl fun a W1 hR hl K hK => ?_
      have hD : DR w0 W1 := HDR.out.trans hR
      have h9 : a.tmps.getD 9 undef = (.slice (some ⟨wb, 0, none⟩) 64 64) := hl 9 (by decide)
      replace hK : ∀ v W2, DR W1 W2 → v = (.slice (some ⟨wb, 0, none⟩) 64 64) → K (a.put (some 243) v) W2 := fun v W2 h1 h2 => hK v W2 h1 (fun d hd => by cases hd; exact h2)
      clear hl
      simp only [Array.getD_eq_getD_getElem?] at h9
      go_simp
      exact hK _ W1 (DR.refl W1) rfl
    · as_aux_lemma =>
      refine UpOb.plain rfl fun a W1 hR hl K hK => ?_
      have hD : DR w0 W1 := HDR.out.trans hR
      have h15 : a.tmps.getD 15 undef = (.int .i64 (j : Int)) := hl 15 (by decide)
      replace hK : ∀ v W2, DR W1 W2 → v = (.int .i64 (j : Int)) → K (a.put (some 244) v) W2 := fun v W2 h1 h2 => hK v W2 h1 (fun d hd => by cases hd; exact h2)
      clear hl
      simp only [Array.getD_eq_getD_getElem?] at h15
      go_simp
      exact hK _ W1 (DR.refl W1) rfl
    · as_aux_lemma =>
      refine UpOb.plain rfl fun a W1 hR hl K hK => ?_
      have hD : DR w0 W1 := HDR.out.trans hR
      have h243 : a.tmps.getD 243 undef = (.slice (some ⟨wb, 0, none⟩) 64 64) := hl 243 (by decide)
      have h244 : a.tmps.getD 244 undef = (.int .i64 (j : Int)) := hl 244 (by decide)
      replace hK : ∀ v W2, DR W1 W2 → v = (.pointer (some ⟨wb, j, none⟩)) → K (a.put (some 245) v) W2 := fun v W2 h1 h2 => hK v W2 h1 (fun d hd => by cases hd; exact h2)
      clear hl
      simp only [Array.getD_eq_getD_getElem?] at h243 h244
      go_simp
      exact hK _ W1 (DR.refl W1) rfl
    · as_aux_lemma =>
      refine UpOb.plain rfl fun a W1 hR hl K hK => ?_
      have hD : DR w0 W1 := HDR.out.trans hR
      have h245 : a.tmps.getD 245 undef = (.pointer (some ⟨wb, j, none⟩)) := hl 245 (by decide)
      replace hK : ∀ v W2, DR W1 W2 → v = (W sx) → K (a.put (some 246) v) W2 := fun v W2 h1 h2 => hK v W2 h1 (fun d hd => by cases hd; exact h2)
      clear hl
      have hc : W1.cell? ⟨wb, j, none⟩ = some (W sx) := (hD.cell _).trans (HSJ.out)
      simp only [Array.getD_eq_getD_getElem?] at h245
      go_simp
      exact hK _ W1 (DR.refl W1) rfl
    · as_aux_lemma =>
      refine UpOb.plain rfl fun a W1 hR hl K hK => ?_
      have hD : DR w0 W1 := HDR.out.trans hR
      have h242 : a.tmps.getD 242 undef = (W (((r.h + y16) + y17) + kx)) := hl 242 (by decide)
      have h246 : a.tmps.getD 246 undef = (W sx) := hl 246 (by decide)
      replace hK : ∀ v W2, DR W1 W2 → v = (W ((((r.h + y16) + y17) + kx) + sx)) → K (a.put (some 247) v) W2 := fun v W2 h1 h2 => hK v W2 h1 (fun d hd => by cases hd; exact h2)
      clear hl
      simp only [Array.getD_eq_getD_getElem?] at h242 h246
      go_simp
      exact hK _ W1 (DR.refl W1) rfl
    · as_aux_lemma =>
      refine UpOb.plain rfl fun a W1 hR hl K hK => ?_
      have hD : DR w0 W1 := HDR.out.trans hR
      have h247 : a.tmps.getD 247 undef = (W ((((r.h + y16) + y17) + kx) + sx)) := hl 247 (by decide)
      replace hK : ∀ v W2, DR W1 W2 → v = (W ((((r.h + y16) + y17) + kx) + sx)) → K (a.put (some 18) v) W2 := fun v W2 h1 h2 => hK v W2 h1 (fun d hd => by cases hd; exact h2)
      clear hl
      simp only [Array.getD_eq_getD_getElem?] at h247
      go_simp
      exact hK _ W1 (DR.refl W1) rfl
  · intro w3 hW
    replace hW : DR w0 w3 := HDR.out.trans hW
    have Hw3 := Lib.hid hW
    clear hW
    simp only [filled, List.foldl, List.setIfInBounds_toArray, List.set, List.drop_succ_cons, List.drop_zero]
    go_wp2
    exact HQ.out _ _ _ _ _ _ _ _ _ _ _ _ _ _ _ _ _ w3 Hw3.out

noncomputable def code33 : Code := (Tryd.f8.body.bind (regOf 33)).getD .skip
attribute [local irreducible] wpList in
set_option maxRecDepth 100000 in
set_option maxHeartbeats 4000000 in
theorem reg33 (hb wb vb j : Nat) (r : St) (kx sx : UInt32) (w0 w1 : World) (Q : Exit → Act → World → Prop) (u0 u1 u2 u3 u4 u5 u6 u8 u10 u11 u12 u13 u16 u17 u18 u19 u20 u21 u22 u23 u24 u25 u26 u27 u28 u29 u30 u31 u32 u33 u34 u35 u36 u37 u38 u39 u40 u41 u42 u43 u44 u45 u46 u47 u48 u49 u50 u51 u52 u53 u54 u55 u56 u57 u58 u59 u60 u61 u62 u63 u64 u65 u66 u67 u68 u69 u70 u71 u72 u73 u74 u75 u76 u77 u78 u79 u80 u81 u82 u83 u84 u85 u86 u87 u88 u89 u90 u91 u92 u93 u94 u95 u96 u97 u98 u99 u100 u101 u102 u103 u104 u105 u106 u107 u108 u109 u110 u111 u112 u113 u114 u115 u116 u117 u118 u119 u120 u121 u122 u123 u124 u125 u126 u127 u128 u129 u130 u131 u132 u133 u134 u135 u136 u137 u138 u139 u140 u141 u142 u143 u144 u145 u146 u147 u148 u149 u150 u151 u152 u153 u154 u155 u156 u157 u158 u159 u160 u161 u162 u163 u164 u165 u166 u167 u168 u169 u170 u171 u172 u173 u174 u175 u176 u177 u178 u179 u180 u181 u182 u183 u184 u185 u186 u187 u188 u189 u190 u191 u192 u193 u194 u195 u196 u197 u198 u199 u200 u201 u202 u203 u204 u205 u206 u207 u208 u209 u210 u211 u212 u213 u214 u215 u216 u217 u218 u219 u220 u221 u222 u223 u224 u225 u226 u227 u228 u229 u230 u231 u232 u233 u234 u235 u236 u237 u238 u239 u240 u241 u242 u243 u244 u245 u246 u247 u248 u249 u250 u251 u252 u253 u254 u255 u256 u257 u258 u259 u260 u261 u262 u263 u264 u265 u266 u267 u268 u269 u270 u271 u272 u273 u274 u275 u276 u277 u278 u279 u280 u281 u282 u283 u284 u285 u286 u287 u288 u289 u290 u291 u292 u293 u294 u295 u296 u297 u298 u299 u300 u301 u302 u303 u304 u305 u306 u307 u308 u309 u310 u311 u312 u313 u314 u315 u316 u317 u318 u319 u320 u321 u322 u323 u324 u325 u326 u327 u328 u329 u330 u331 u332 u333 u334 u335 u336 u337 u338 u339 u340 u341 u342 u343 u344 u345 u346 u347 u348 u349 u350 u351 u352 u353 u354 u355 u356 u357 u358 u359 u360 u361 u362 u363 u364 u365 u366 u367 u368 u369 u370 u371 u372 u373 : Value)
    (hd : DR w0 w1) (hv : Blk w0 vb 52 (r.list.map W).toArray) (hkj : w0.cell? ⟨hb + 1, j, none⟩ = some (W kx)) (hsj : w0.cell? ⟨wb, j, none⟩ = some (W sx)) (hj : j < 64)
    (hq : ∀ (n248 n249 n250 n251 n252 n253 n254 n255 n256 n257 n258 n259 n260 n261 : Value) (w' : World), DR w0 w' → Q .normal ⟨#[u0, u1, u2, u3, u4, u5, u6, .slice (some ⟨hb + 1, 0, none⟩) 64 64, u8, .slice (some ⟨wb, 0, none⟩) 64 64, u10, u11, u12, u13, .slice (some ⟨vb, 0, none⟩) 8 8, .int .i64 (j : Int), u16, u17, u18, W (((rotr (r.a) 2) ^^^ (rotr (r.a) 13)) ^^^ (rotr (r.a) 22)), u20, u21, u22, u23, u24, u25, u26, u27, u28, u29, u30, u31, u32, u33, u34, u35, u36, u37, u38, u39, u40, u41, u42, u43, u44, u45, u46, u47, u48, u49, u50, u51, u52, u53, u54, u55, u56, u57, u58, u59, u60, u61, u62, u63, u64, u65, u66, u67, u68, u69, u70, u71, u72, u73, u74, u75, u76, u77, u78, u79, u80, u81, u82, u83, u84, u85, u86, u87, u88, u89, u90, u91, u92, u93, u94, u95, u96, u97, u98, u99, u100, u101, u102, u103, u104, u105, u106, u107, u108, u109, u110, u111, u112, u113, u114, u115, u116, u117, u118, u119, u120, u121, u122, u123, u124, u125, u126, u127, u128, u129, u130, u131, u132, u133, u134, u135, u136, u137, u138, u139, u140, u141, u142, u143, u144, u145, u146, u147, u148, u149, u150, u151, u152, u153, u154, u155, u156, u157, u158, u159, u160, u161, u162, u163, u164, u165, u166, u167, u168, u169, u170, u171, u172, u173, u174, u175, u176, u177, u178, u179, u180, u181, u182, u183, u184, u185, u186, u187, u188, u189, u190, u191, u192, u193, u194, u195, u196, u197, u198, u199, u200, u201, u202, u203, u204, u205, u206, u207, u208, u209, u210, u211, u212, u213, u214, u215, u216, u217, u218, u219, u220, u221, u222, u223, u224, u225, u226, u227, u228, u229, u230, u231, u232, u233, u234, u235, u236, u237, u238, u239, u240, u241, u242, u243, u244, u245, u246, u247, n248, n249, n250, n251, n252, n253, n254, n255, n256, n257, n258, n259, n260, n261, u262, u263, u264, u265, u266, u267, u268, u269, u270, u271, u272, u273, u274, u275, u276, u277, u278, u279, u280, u281, u282, u283, u284, u285, u286, u287, u288, u289, u290, u291, u292, u293, u294, u295, u296, u297, u298, u299, u300, u301, u302, u303, u304, u305, u306, u307, u308, u309, u310, u311, u312, u313, u314, u315, u316, u317, u318, u319, u320, u321, u322, u323, u324, u325, u326, u327, u328, u329, u330, u331, u332, u333, u334, u335, u336, u337, u338, u339, u340, u341, u342, u343, u344, u345, u346, u347, u348, u349, u350, u351, u352, u353, u354, u355, u356, u357, u358, u359, u360, u361, u362, u363, u364, u365, u366, u367, u368, u369, u370, u371, u372, u373], []⟩ w') :
    Code.wp Tryd.prog code33 Q ⟨#[u0, u1, u2, u3, u4, u5, u6, .slice (some ⟨hb + 1, 0, none⟩) 64 64, u8, .slice (some ⟨wb, 0, none⟩) 64 64, u10, u11, u12, u13, .slice (some ⟨vb, 0, none⟩) 8 8, .int .i64 (j : Int), u16, u17, u18, u19, u20, u21, u22, u23, u24, u25, u26, u27, u28, u29, u30, u31, u32, u33, u34, u35, u36, u37, u38, u39, u40, u41, u42, u43, u44, u45, u46, u47, u48, u49, u50, u51, u52, u53, u54, u55, u56, u57, u58, u59, u60, u61, u62, u63, u64, u65, u66, u67, u68, u69, u70, u71, u72, u73, u74, u75, u76, u77, u78, u79, u80, u81, u82, u83, u84, u85, u86, u87, u88, u89, u90, u91, u92, u93, u94, u95, u96, u97, u98, u99, u100, u101, u102, u103, u104, u105, u106, u107, u108, u109, u110, u111, u112, u113, u114, u115, u116, u117, u118, u119, u120, u121, u122, u123, u124, u125, u126, u127, u128, u129, u130, u131, u132, u133, u134, u135, u136, u137, u138, u139, u140, u141, u142, u143, u144, u145, u146, u147, u148, u149, u150, u151, u152, u153, u154, u155, u156, u157, u158, u159, u160, u161, u162, u163, u164, u165, u166, u167, u168, u169, u170, u171, u172, u173, u174, u175, u176, u177, u178, u179, u180, u181, u182, u183, u184, u185, u186, u187, u188, u189, u190, u191, u192, u193, u194, u195, u196, u197, u198, u199, u200, u201, u202, u203, u204, u205, u206, u207, u208, u209, u210, u211, u212, u213, u214, u215, u216, u217, u218, u219, u220, u221, u222, u223, u224, u225, u226, u227, u228, u229, u230, u231, u232, u233, u234, u235, u236, u237, u238, u239, u240, u241, u242, u243, u244, u245, u246, u247, u248, u249, u250, u251, u252, u253, u254, u255, u256, u257, u258, u259, u260, u261, u262, u263, u264, u265, u266, u267, u268, u269, u270, u271, u272, u273, u274, u275, u276, u277, u278, u279, u280, u281, u282, u283, u284, u285, u286, u287, u288, u289, u290, u291, u292, u293, u294, u295, u296, u297, u298, u299, u300, u301, u302, u303, u304, u305, u306, u307, u308, u309, u310, u311, u312, u313, u314, u315, u316, u317, u318, u319, u320, u321, u322, u323, u324, u325, u326, u327, u328, u329, u330, u331, u332, u333, u334, u335, u336, u337, u338, u339, u340, u341, u342, u343, u344, u345, u346, u347, u348, u349, u350, u351, u352, u353, u354, u355, u356, u357, u358, u359, u360, u361, u362, u363, u364, u365, u366, u367, u368, u369, u370, u371, u372, u373], []⟩ w1 := by
  have HV := Lib.hid hv
  have HKJ := Lib.hid hkj
  have HSJ := Lib.hid hsj
  have HQ := Lib.hid hq
  have HDR := Lib.hid (hd.trans (DR.drew w1))
  have hj64 : (j : Int) < 64 := by omega
  have s6 := run_and
  have s7 := run_subF
  have s1 := run_xor
  have s5 := run_add
  clear hv hkj hsj hq hd
  conv => arg 2; whnf
  refine wp_region_pre (by kernel_rfl) (R := DR) DR.refl (fun _ _ _ h k => h.trans k) 15 [[14], [248], [249], [250], [14], [252], [253], [254], [251, 255], [14], [257], [258], [259], [256, 260], [261]]
    [(248, .slice (some ⟨vb, 0, none⟩) 8 8), (249, .pointer (some ⟨vb, 0, none⟩)), (250, W r.a), (251, W (rotr (r.a) 2)), (252, .slice (some ⟨vb, 0, none⟩) 8 8), (253, .pointer (some ⟨vb, 0, none⟩)), (254, W r.a), (255, W (rotr (r.a) 13)), (256, W ((rotr (r.a) 2) ^^^ (rotr (r.a) 13))), (257, .slice (some ⟨vb, 0, none⟩) 8 8), (258, .pointer (some ⟨vb, 0, none⟩)), (259, W r.a), (260, W (rotr (r.a) 22)), (261, W (((rotr (r.a) 2) ^^^ (rotr (r.a) 13)) ^^^ (rotr (r.a) 22))), (19, W (((rotr (r.a) 2) ^^^ (rotr (r.a) 13)) ^^^ (rotr (r.a) 22)))]
    374 rfl (by decide) (by kernel_rfl) (by kernel_rfl) (by simp) (by kernel_rfl) (by kernel_rfl) ?_ ?_
  · refine ⟨?_, ?_, ?_, ?_, ?_, ?_, ?_, ?_, ?_, ?_, ?_, ?_, ?_, ?_, ?_, trivial⟩
    · as_aux_lemma =>
      refine UpOb.plain rfl fun a W1 hR hl K hK => ?_
      have hD : DR w0 W1 := HDR.out.trans hR
      have h14 : a.tmps.getD 14 undef = (.slice (some ⟨vb, 0, none⟩) 8 8) := hl 14 (by decide)
      replace hK : ∀ v W2, DR W1 W2 → v = (.slice (some ⟨vb, 0, none⟩) 8 8) → K (a.put (some 248) v) W2 := fun v W2 h1 h2 => hK v W2 h1 (fun d hd => by cases hd; exact h2)
      clear hl
      simp only [Array.getD_eq_getD_getElem?] at h14
      go_simp
      exact hK _ W1 (DR.refl W1) rfl
    · as_aux_lemma =>
      refine UpOb.plain rfl fun a W1 hR hl K hK => ?_
      have hD : DR w0 W1 := HDR.out.trans hR
      have h248 : a.tmps.getD 248 undef = (.slice (some ⟨vb, 0, none⟩) 8 8) := hl 248 (by decide)
      replace hK : ∀ v W2, DR W1 W2 → v = (.pointer (some ⟨vb, 0, none⟩)) → K (a.put (some 249) v) W2 := fun v W2 h1 h2 => hK v W2 h1 (fun d hd => by cases hd; exact h2)
      clear hl
      simp only [Array.getD_eq_getD_getElem?] at h248
      go_simp
      exact hK _ W1 (DR.refl W1) rfl
    · as_aux_lemma =>
      refine UpOb.plain rfl fun a W1 hR hl K hK => ?_
      have hD : DR w0 W1 := HDR.out.trans hR
      have h249 : a.tmps.getD 249 undef = (.pointer (some ⟨vb, 0, none⟩)) := hl 249 (by decide)
      replace hK : ∀ v W2, DR W1 W2 → v = (W r.a) → K (a.put (some 250) v) W2 := fun v W2 h1 h2 => hK v W2 h1 (fun d hd => by cases hd; exact h2)
      clear hl
      have hc : W1.cell? ⟨vb, 0, none⟩ = some (W r.a) := (hD.cell _).trans ((HV.out.cell 0).trans rfl)
      simp only [Array.getD_eq_getD_getElem?] at h249
      go_simp
      exact hK _ W1 (DR.refl W1) rfl
    · as_aux_lemma =>
      refine UpOb.plain rfl fun a W1 hR hl K hK => ?_
      have hD : DR w0 W1 := HDR.out.trans hR
      have h250 : a.tmps.getD 250 undef = (W r.a) := hl 250 (by decide)
      replace hK : ∀ v W2, DR W1 W2 → v = (W (rotr (r.a) 2)) → K (a.put (some 251) v) W2 := fun v W2 h1 h2 => hK v W2 h1 (fun d hd => by cases hd; exact h2)
      clear hl
      have hs := rotr_one (r.a) 2 (by decide) (by decide) W1
      simp only [Array.getD_eq_getD_getElem?] at h250
      go_simp
      refine hs.mono ?_
      rintro e W2 ⟨rfl, N, rfl⟩
      exact hK _ _ ⟨N, rfl⟩ rfl
    · as_aux_lemma =>
      refine UpOb.plain rfl fun a W1 hR hl K hK => ?_
      have hD : DR w0 W1 := HDR.out.trans hR
      have h14 : a.tmps.getD 14 undef = (.slice (some ⟨vb, 0, none⟩) 8 8) := hl 14 (by decide)
      replace hK : ∀ v W2, DR W1 W2 → v = (.slice (some ⟨vb, 0, none⟩) 8 8) → K (a.put (some 252) v) W2 := fun v W2 h1 h2 => hK v W2 h1 (fun d hd => by cases hd; exact h2)
      clear hl
      simp only [Array.getD_eq_getD_getElem?] at h14
      go_simp
      exact hK _ W1 (DR.refl W1) rfl
    · as_aux_lemma =>
      refine UpOb.plain rfl fun a W1 hR hl K hK => ?_
      have hD : DR w0 W1 := HDR.out.trans hR
      have h252 : a.tmps.getD 252 undef = (.slice (some ⟨vb, 0, none⟩) 8 8) := hl 252 (by decide)
      replace hK : ∀ v W2, DR W1 W2 → v = (.pointer (some ⟨vb, 0, none⟩)) → K (a.put (some 253) v) W2 := fun v W2 h1 h2 => hK v W2 h1 (fun d hd => by cases hd; exact h2)
      clear hl
      simp only [Array.getD_eq_getD_getElem?] at h252
      go_simp
      exact hK _ W1 (DR.refl W1) rfl
    · as_aux_lemma =>
      refine UpOb.plain rfl fun a W1 hR hl K hK => ?_
      have hD : DR w0 W1 := HDR.out.trans hR
      have h253 : a.tmps.getD 253 undef = (.pointer (some ⟨vb, 0, none⟩)) := hl 253 (by decide)
      replace hK : ∀ v W2, DR W1 W2 → v = (W r.a) → K (a.put (some 254) v) W2 := fun v W2 h1 h2 => hK v W2 h1 (fun d hd => by cases hd; exact h2)
      clear hl
      have hc : W1.cell? ⟨vb, 0, none⟩ = some (W r.a) := (hD.cell _).trans ((HV.out.cell 0).trans rfl)
      simp only [Array.getD_eq_getD_getElem?] at h253
      go_simp
      exact hK _ W1 (DR.refl W1) rfl
    · as_aux_lemma =>
      refine UpOb.plain rfl fun a W1 hR hl K hK => ?_
      have hD : DR w0 W1 := HDR.out.trans hR
      have h254 : a.tmps.getD 254 undef = (W r.a) := hl 254 (by decide)
      replace hK : ∀ v W2, DR W1 W2 → v = (W (rotr (r.a) 13)) → K (a.put (some 255) v) W2 := fun v W2 h1 h2 => hK v W2 h1 (fun d hd => by cases hd; exact h2)
      clear hl
      have hs := rotr_one (r.a) 13 (by decide) (by decide) W1
      simp only [Array.getD_eq_getD_getElem?] at h254
      go_simp
      refine hs.mono ?_
      rintro e W2 ⟨rfl, N, rfl⟩
      exact hK _ _ ⟨N, rfl⟩ rfl
    · as_aux_lemma =>
      refine UpOb.plain rfl fun a W1 hR hl K hK => ?_
      have hD : DR w0 W1 := HDR.out.trans hR
      have h251 : a.tmps.getD 251 undef = (W (rotr (r.a) 2)) := hl 251 (by decide)
      have h255 : a.tmps.getD 255 undef = (W (rotr (r.a) 13)) := hl 255 (by decide)
      replace hK : ∀ v W2, DR W1 W2 → v = (W ((rotr (r.a) 2) ^^^ (rotr (r.a) 13))) → K (a.put (some 256) v) W2 := fun v W2 h1 h2 => hK v W2 h1 (fun d hd => by cases hd; exact h2)
      clear hl
      simp only [Array.getD_eq_getD_getElem?] at h251 h255
      go_simp
      exact hK _ W1 (DR.refl W1) rfl
    · as_aux_lemma =>
      refine UpOb.plain rfl fun a W1 hR hl K hK => ?_
      have hD : DR w0 W1 := HDR.out.trans hR
      have h14 : a.tmps.getD 14 undef = (.slice (some ⟨vb, 0, none⟩) 8 8) := hl 14 (by decide)
      replace hK : ∀ v W2, DR W1 W2 → v = (.slice (some ⟨vb, 0, none⟩) 8 8) → K (a.put (some 257) v) W2 := fun v W2 h1 h2 => hK v W2 h1 (fun d hd => by cases hd; exact h2)
      clear hl
      simp only [Array.getD_eq_getD_getElem?] at h14
      go_simp
      exact hK _ W1 (DR.refl W1) rfl
    · as_aux_lemma =>
      refine UpOb.plain rfl fun a W1 hR hl K hK => ?_
      have hD : DR w0 W1 := HDR.out.trans hR
      have h257 : a.tmps.getD 257 undef = (.slice (some ⟨vb, 0, none⟩) 8 8) := hl 257 (by decide)
      replace hK : ∀ v W2, DR W1 W2 → v = (.pointer (some ⟨vb, 0, none⟩)) → K (a.put (some 258) v) W2 := fun v W2 h1 h2 => hK v W2 h1 (fun d hd => by cases hd; exact h2)
      clear hl
      simp only [Array.getD_eq_getD_getElem?] at h257
      go_simp
      exact hK _ W1 (DR.refl W1) rfl
    · as_aux_lemma =>
      refine UpOb.plain rfl fun a W1 hR hl K hK => ?_
      have hD : DR w0 W1 := HDR.out.trans hR
      have h258 : a.tmps.getD 258 undef = (.pointer (some ⟨vb, 0, none⟩)) := hl 258 (by decide)
      replace hK : ∀ v W2, DR W1 W2 → v = (W r.a) → K (a.put (some 259) v) W2 := fun v W2 h1 h2 => hK v W2 h1 (fun d hd => by cases hd; exact h2)
      clear hl
      have hc : W1.cell? ⟨vb, 0, none⟩ = some (W r.a) := (hD.cell _).trans ((HV.out.cell 0).trans rfl)
      simp only [Array.getD_eq_getD_getElem?] at h258
      go_simp
      exact hK _ W1 (DR.refl W1) rfl
    · as_aux_lemma =>
      refine UpOb.plain rfl fun a W1 hR hl K hK => ?_
      have hD : DR w0 W1 := HDR.out.trans hR
      have h259 : a.tmps.getD 259 undef = (W r.a) := hl 259 (by decide)
      replace hK : ∀ v W2, DR W1 W2 → v = (W (rotr (r.a) 22)) → K (a.put (some 260) v) W2 := fun v W2 h1 h2 => hK v W2 h1 (fun d hd => by cases hd; exact h2)
      clear hl
      have hs := rotr_one (r.a) 22 (by decide) (by decide) W1
      simp only [Array.getD_eq_getD_getElem?] at h259
      go_simp
      refine hs.mono ?_
      rintro e W2 ⟨rfl, N, rfl⟩
      exact hK _ _ ⟨N, rfl⟩ rfl
    · as_aux_lemma =>
      refine UpOb.plain rfl fun a W1 hR hl K hK => ?_
      have hD : DR w0 W1 := HDR.out.trans hR
      have h256 : a.tmps.getD 256 undef = (W ((rotr (r.a) 2) ^^^ (rotr (r.a) 13))) := hl 256 (by decide)
      have h260 : a.tmps.getD 260 undef = (W (rotr (r.a) 22)) := hl 260 (by decide)
      replace hK : ∀ v W2, DR W1 W2 → v = (W (((rotr (r.a) 2) ^^^ (rotr (r.a) 13)) ^^^ (rotr (r.a) 22))) → K (a.put (some 261) v) W2 := fun v W2 h1 h2 => hK v W2 h1 (fun d hd => by cases hd; exact h2)
      clear hl
      simp only [Array.getD_eq_getD_getElem?] at h256 h260
      go_simp
      exact hK _ W1 (DR.refl W1) rfl
    · as_aux_lemma =>
      refine UpOb.plain rfl fun a W1 hR hl K hK => ?_
      have hD : DR w0 W1 := HDR.out.trans hR
      have h261 : a.tmps.getD 261 undef = (W (((rotr (r.a) 2) ^^^ (rotr (r.a) 13)) ^^^ (rotr (r.a) 22))) := hl 261 (by decide)
      replace hK : ∀ v W2, DR W1 W2 → v = (W (((rotr (r.a) 2) ^^^ (rotr (r.a) 13)) ^^^ (rotr (r.a) 22))) → K (a.put (some 19) v) W2 := fun v W2 h1 h2 => hK v W2 h1 (fun d hd => by cases hd; exact h2)
      clear hl
      simp only [Array.getD_eq_getD_getElem?] at h261
      go_simp
      exact hK _ W1 (DR.refl W1) rfl
  · intro w3 hW
    replace hW : DR w0 w3 := HDR.out.trans hW
    have Hw3 := Lib.hid hW
    clear hW
    simp only [filled, List.foldl, List.setIfInBounds_toArray, List.set, List.drop_succ_cons, List.drop_zero]
    go_wp2
    exact HQ.out _ _ _ _ _ _ _ _ _ _ _ _ _ _ w3 Hw3.out

noncomputable def code34 : Code := (Tryd.f8.body.bind (regOf 34)).getD .skip
attribute [local irreducible] wpList in
set_option maxRecDepth 100000 in
set_option maxHeartbeats 4000000 in
theorem reg34 (hb wb vb j : Nat) (r : St) (kx sx : UInt32) (w0 w1 : World) (Q : Exit → Act → World → Prop) (u0 u1 u2 u3 u4 u5 u6 u8 u10 u11 u12 u13 u16 u17 u18 u19 u20 u21 u22 u23 u24 u25 u26 u27 u28 u29 u30 u31 u32 u33 u34 u35 u36 u37 u38 u39 u40 u41 u42 u43 u44 u45 u46 u47 u48 u49 u50 u51 u52 u53 u54 u55 u56 u57 u58 u59 u60 u61 u62 u63 u64 u65 u66 u67 u68 u69 u70 u71 u72 u73 u74 u75 u76 u77 u78 u79 u80 u81 u82 u83 u84 u85 u86 u87 u88 u89 u90 u91 u92 u93 u94 u95 u96 u97 u98 u99 u100 u101 u102 u103 u104 u105 u106 u107 u108 u109 u110 u111 u112 u113 u114 u115 u116 u117 u118 u119 u120 u121 u122 u123 u124 u125 u126 u127 u128 u129 u130 u131 u132 u133 u134 u135 u136 u137 u138 u139 u140 u141 u142 u143 u144 u145 u146 u147 u148 u149 u150 u151 u152 u153 u154 u155 u156 u157 u158 u159 u160 u161 u162 u163 u164 u165 u166 u167 u168 u169 u170 u171 u172 u173 u174 u175 u176 u177 u178 u179 u180 u181 u182 u183 u184 u185 u186 u187 u188 u189 u190 u191 u192 u193 u194 u195 u196 u197 u198 u199 u200 u201 u202 u203 u204 u205 u206 u207 u208 u209 u210 u211 u212 u213 u214 u215 u216 u217 u218 u219 u220 u221 u222 u223 u224 u225 u226 u227 u228 u229 u230 u231 u232 u233 u234 u235 u236 u237 u238 u239 u240 u241 u242 u243 u244 u245 u246 u247 u248 u249 u250 u251 u252 u253 u254 u255 u256 u257 u258 u259 u260 u261 u262 u263 u264 u265 u266 u267 u268 u269 u270 u271 u272 u273 u274 u275 u276 u277 u278 u279 u280 u281 u282 u283 u284 u285 u286 u287 u288 u289 u290 u291 u292 u293 u294 u295 u296 u297 u298 u299 u300 u301 u302 u303 u304 u305 u306 u307 u308 u309 u310 u311 u312 u313 u314 u315 u316 u317 u318 u319 u320 u321 u322 u323 u324 u325 u326 u327 u328 u329 u330 u331 u332 u333 u334 u335 u336 u337 u338 u339 u340 u341 u342 u343 u344 u345 u346 u347 u348 u349 u350 u351 u352 u353 u354 u355 u356 u357 u358 u359 u360 u361 u362 u363 u364 u365 u366 u367 u368 u369 u370 u371 u372 u373 : Value)
    (hd : DR w0 w1) (hv : Blk w0 vb 52 (r.list.map W).toArray) (hkj : w0.cell? ⟨hb + 1, j, none⟩ = some (W kx)) (hsj : w0.cell? ⟨wb, j, none⟩ = some (W sx)) (hj : j < 64)
    (hq : ∀ (n262 n263 n264 n265 n266 n267 n268 n269 n270 n271 n272 n273 n274 n275 n276 n277 n278 n279 n280 n281 n282 n283 n284 : Value) (w' : World), DR w0 w' → Q .normal ⟨#[u0, u1, u2, u3, u4, u5, u6, .slice (some ⟨hb + 1, 0, none⟩) 64 64, u8, .slice (some ⟨wb, 0, none⟩) 64 64, u10, u11, u12, u13, .slice (some ⟨vb, 0, none⟩) 8 8, .int .i64 (j : Int), u16, u17, u18, u19, W (((r.a &&& r.b) ^^^ (r.a &&& r.c)) ^^^ (r.b &&& r.c)), u21, u22, u23, u24, u25, u26, u27, u28, u29, u30, u31, u32, u33, u34, u35, u36, u37, u38, u39, u40, u41, u42, u43, u44, u45, u46, u47, u48, u49, u50, u51, u52, u53, u54, u55, u56, u57, u58, u59, u60, u61, u62, u63, u64, u65, u66, u67, u68, u69, u70, u71, u72, u73, u74, u75, u76, u77, u78, u79, u80, u81, u82, u83, u84, u85, u86, u87, u88, u89, u90, u91, u92, u93, u94, u95, u96, u97, u98, u99, u100, u101, u102, u103, u104, u105, u106, u107, u108, u109, u110, u111, u112, u113, u114, u115, u116, u117, u118, u119, u120, u121, u122, u123, u124, u125, u126, u127, u128, u129, u130, u131, u132, u133, u134, u135, u136, u137, u138, u139, u140, u141, u142, u143, u144, u145, u146, u147, u148, u149, u150, u151, u152, u153, u154, u155, u156, u157, u158, u159, u160, u161, u162, u163, u164, u165, u166, u167, u168, u169, u170, u171, u172, u173, u174, u175, u176, u177, u178, u179, u180, u181, u182, u183, u184, u185, u186, u187, u188, u189, u190, u191, u192, u193, u194, u195, u196, u197, u198, u199, u200, u201, u202, u203, u204, u205, u206, u207, u208, u209, u210, u211, u212, u213, u214, u215, u216, u217, u218, u219, u220, u221, u222, u223, u224, u225, u226, u227, u228, u229, u230, u231, u232, u233, u234, u235, u236, u237, u238, u239, u240, u241, u242, u243, u244, u245, u246, u247, u248, u249, u250, u251, u252, u253, u254, u255, u256, u257, u258, u259, u260, u261, n262, n263, n264, n265, n266, n267, n268, n269, n270, n271, n272, n273, n274, n275, n276, n277, n278, n279, n280, n281, n282, n283, n284, u285, u286, u287, u288, u289, u290, u291, u292, u293, u294, u295, u296, u297, u298, u299, u300, u301, u302, u303, u304, u305, u306, u307, u308, u309, u310, u311, u312, u313, u314, u315, u316, u317, u318, u319, u320, u321, u322, u323, u324, u325, u326, u327, u328, u329, u330, u331, u332, u333, u334, u335, u336, u337, u338, u339, u340, u341, u342, u343, u344, u345, u346, u347, u348, u349, u350, u351, u352, u353, u354, u355, u356, u357, u358, u359, u360, u361, u362, u363, u364, u365, u366, u367, u368, u369, u370, u371, u372, u373], []⟩ w') :
    Code.wp Tryd.prog code34 Q ⟨#[u0, u1, u2, u3, u4, u5, u6, .slice (some ⟨hb + 1, 0, none⟩) 64 64, u8, .slice (some ⟨wb, 0, none⟩) 64 64, u10, u11, u12, u13, .slice (some ⟨vb, 0, none⟩) 8 8, .int .i64 (j : Int), u16, u17, u18, u19, u20, u21, u22, u23, u24, u25, u26, u27, u28, u29, u30, u31, u32, u33, u34, u35, u36, u37, u38, u39, u40, u41, u42, u43, u44, u45, u46, u47, u48, u49, u50, u51, u52, u53, u54, u55, u56, u57, u58, u59, u60, u61, u62, u63, u64, u65, u66, u67, u68, u69, u70, u71, u72, u73, u74, u75, u76, u77, u78, u79, u80, u81, u82, u83, u84, u85, u86, u87, u88, u89, u90, u91, u92, u93, u94, u95, u96, u97, u98, u99, u100, u101, u102, u103, u104, u105, u106, u107, u108, u109, u110, u111, u112, u113, u114, u115, u116, u117, u118, u119, u120, u121, u122, u123, u124, u125, u126, u127, u128, u129, u130, u131, u132, u133, u134, u135, u136, u137, u138, u139, u140, u141, u142, u143, u144, u145, u146, u147, u148, u149, u150, u151, u152, u153, u154, u155, u156, u157, u158, u159, u160, u161, u162, u163, u164, u165, u166, u167, u168, u169, u170, u171, u172, u173, u174, u175, u176, u177, u178, u179, u180, u181, u182, u183, u184, u185, u186, u187, u188, u189, u190, u191, u192, u193, u194, u195, u196, u197, u198, u199, u200, u201, u202, u203, u204, u205, u206, u207, u208, u209, u210, u211, u212, u213, u214, u215, u216, u217, u218, u219, u220, u221, u222, u223, u224, u225, u226, u227, u228, u229, u230, u231, u232, u233, u234, u235, u236, u237, u238, u239, u240, u241, u242, u243, u244, u245, u246, u247, u248, u249, u250, u251, u252, u253, u254, u255, u256, u257, u258, u259, u260, u261, u262, u263, u264, u265, u266, u267, u268, u269, u270, u271, u272, u273, u274, u275, u276, u277, u278, u279, u280, u281, u282, u283, u284, u285, u286, u287, u288, u289, u290, u291, u292, u293, u294, u295, u296, u297, u298, u299, u300, u301, u302, u303, u304, u305, u306, u307, u308, u309, u310, u311, u312, u313, u314, u315, u316, u317, u318, u319, u320, u321, u322, u323, u324, u325, u326, u327, u328, u329, u330, u331, u332, u333, u334, u335, u336, u337, u338, u339, u340, u341, u342, u343, u344, u345, u346, u347, u348, u349, u350, u351, u352, u353, u354, u355, u356, u357, u358, u359, u360, u361, u362, u363, u364, u365, u366, u367, u368, u369, u370, u371, u372, u373], []⟩ w1 := by
  have HV := Lib.hid hv
  have HKJ := Lib.hid hkj
  have HSJ := Lib.hid hsj
  have HQ := Lib.hid hq
  have HDR := Lib.hid (hd.trans (DR.drew w1))
  have hj64 : (j : Int) < 64 := by omega
  have s6 := run_and
  have s7 := run_subF
  have s1 := run_xor
  have s5 := run_add
  clear hv hkj hsj hq hd
  conv => arg 2; whnf
  refine wp_region_pre (by kernel_rfl) (R := DR) DR.refl (fun _ _ _ h k => h.trans k) 24 [[14], [262], [263], [14], [265], [266], [264, 267], [14], [269], [270], [14], [272], [273], [271, 274], [268, 275], [14], [277], [278], [14], [280], [281], [279, 282], [276, 283], [284]]
    [(262, .slice (some ⟨vb, 0, none⟩) 8 8), (263, .pointer (some ⟨vb, 0, none⟩)), (264, W r.a), (265, .slice (some ⟨vb, 0, none⟩) 8 8), (266, .pointer (some ⟨vb, 1, none⟩)), (267, W r.b), (268, W (r.a &&& r.b)), (269, .slice (some ⟨vb, 0, none⟩) 8 8), (270, .pointer (some ⟨vb, 0, none⟩)), (271, W r.a), (272, .slice (some ⟨vb, 0, none⟩) 8 8), (273, .pointer (some ⟨vb, 2, none⟩)), (274, W r.c), (275, W (r.a &&& r.c)), (276, W ((r.a &&& r.b) ^^^ (r.a &&& r.c))), (277, .slice (some ⟨vb, 0, none⟩) 8 8), (278, .pointer (some ⟨vb, 1, none⟩)), (279, W r.b), (280, .slice (some ⟨vb, 0, none⟩) 8 8), (281, .pointer (some ⟨vb, 2, none⟩)), (282, W r.c), (283, W (r.b &&& r.c)), (284, W (((r.a &&& r.b) ^^^ (r.a &&& r.c)) ^^^ (r.b &&& r.c))), (20, W (((r.a &&& r.b) ^^^ (r.a &&& r.c)) ^^^ (r.b &&& r.c)))]
    374 rfl (by decide) (by kernel_rfl) (by kernel_rfl) (by simp) (by kernel_rfl) (by kernel_rfl) ?_ ?_
  · refine ⟨?_, ?_, ?_, ?_, ?_, ?_, ?_, ?_, ?_, ?_, ?_, ?_, ?_, ?_, ?_, ?_, ?_, ?_, ?_, ?_, ?_, ?_, ?_, ?_, trivial⟩
    · as_aux_lemma =>
      refine UpOb.plain rfl fun a W1 hR hl K hK => ?_
      have hD : DR w0 W1 := HDR.out.trans hR
      have h14 : a.tmps.getD 14 undef = (.slice (some ⟨vb, 0, none⟩) 8 8) := hl 14 (by decide)
      replace hK : ∀ v W2, DR W1 W2 → v = (.slice (some ⟨vb, 0, none⟩) 8 8) → K (a.put (some 262) v) W2 := fun v W2 h1 h2 => hK v W2 h1 (fun d hd => by cases hd; exact h2)
      clear hl
      simp only [Array.getD_eq_getD_getElem?] at h14
      go_simp
      exact hK _ W1 (DR.refl W1) rfl
    · as_aux_lemma =>
      refine UpOb.plain rfl fun a W1 hR hl K hK => ?_
      have hD : DR w0 W1 := HDR.out.trans hR
      have h262 : a.tmps.getD 262 undef = (.slice (some ⟨vb, 0, none⟩) 8 8) := hl 262 (by decide)
      replace hK : ∀ v W2, DR W1 W2 → v = (.pointer (some ⟨vb, 0, none⟩)) → K (a.put (some 263) v) W2 := fun v W2 h1 h2 => hK v W2 h1 (fun d hd => by cases hd; exact h2)
      clear hl
      simp only [Array.getD_eq_getD_getElem?] at h262
      go_simp
      exact hK _ W1 (DR.refl W1) rfl
    · as_aux_lemma =>
      refine UpOb.plain rfl fun a W1 hR hl K hK => ?_
      have hD : DR w0 W1 := HDR.out.trans hR
      have h263 : a.tmps.getD 263 undef = (.pointer (some ⟨vb, 0, none⟩)) := hl 263 (by decide)
      replace hK : ∀ v W2, DR W1 W2 → v = (W r.a) → K (a.put (some 264) v) W2 := fun v W2 h1 h2 => hK v W2 h1 (fun d hd => by cases hd; exact h2)
      clear hl
      have hc : W1.cell? ⟨vb, 0, none⟩ = some (W r.a) := (hD.cell _).trans ((HV.out.cell 0).trans rfl)
      simp only [Array.getD_eq_getD_getElem?] at h263
      go_simp
      exact hK _ W1 (DR.refl W1) rfl
    · as_aux_lemma =>
      refine UpOb.plain rfl fun a W1 hR hl K hK => ?_
      have hD : DR w0 W1 := HDR.out.trans hR
      have h14 : a.tmps.getD 14 undef = (.slice (some ⟨vb, 0, none⟩) 8 8) := hl 14 (by decide)
      replace hK : ∀ v W2, DR W1 W2 → v = (.slice (some ⟨vb, 0, none⟩) 8 8) → K (a.put (some 265) v) W2 := fun v W2 h1 h2 => hK v W2 h1 (fun d hd => by cases hd; exact h2)
      clear hl
      simp only [Array.getD_eq_getD_getElem?] at h14
      go_simp
      exact hK _ W1 (DR.refl W1) rfl
    · as_aux_lemma =>
      refine UpOb.plain rfl fun a W1 hR hl K hK => ?_
      have hD : DR w0 W1 := HDR.out.trans hR
      have h265 : a.tmps.getD 265 undef = (.slice (some ⟨vb, 0, none⟩) 8 8) := hl 265 (by decide)
      replace hK : ∀ v W2, DR W1 W2 → v = (.pointer (some ⟨vb, 1, none⟩)) → K (a.put (some 266) v) W2 := fun v W2 h1 h2 => hK v W2 h1 (fun d hd => by cases hd; exact h2)
      clear hl
      simp only [Array.getD_eq_getD_getElem?] at h265
      go_simp
      exact hK _ W1 (DR.refl W1) rfl
    · as_aux_lemma =>
      refine UpOb.plain rfl fun a W1 hR hl K hK => ?_
      have hD : DR w0 W1 := HDR.out.trans hR
      have h266 : a.tmps.getD 266 undef = (.pointer (some ⟨vb, 1, none⟩)) := hl 266 (by decide)
      replace hK : ∀ v W2, DR W1 W2 → v = (W r.b) → K (a.put (some 267) v) W2 := fun v W2 h1 h2 => hK v W2 h1 (fun d hd => by cases hd; exact h2)
      clear hl
      have hc : W1.cell? ⟨vb, 1, none⟩ = some (W r.b) := (hD.cell _).trans ((HV.out.cell 1).trans rfl)
      simp only [Array.getD_eq_getD_getElem?] at h266
      go_simp
      exact hK _ W1 (DR.refl W1) rfl
    · as_aux_lemma =>
      refine UpOb.plain rfl fun a W1 hR hl K hK => ?_
      have hD : DR w0 W1 := HDR.out.trans hR
      have h264 : a.tmps.getD 264 undef = (W r.a) := hl 264 (by decide)
      have h267 : a.tmps.getD 267 undef = (W r.b) := hl 267 (by decide)
      replace hK : ∀ v W2, DR W1 W2 → v = (W (r.a &&& r.b)) → K (a.put (some 268) v) W2 := fun v W2 h1 h2 => hK v W2 h1 (fun d hd => by cases hd; exact h2)
      clear hl
      simp only [Array.getD_eq_getD_getElem?] at h264 h267
      go_simp
      exact hK _ W1 (DR.refl W1) rfl
    · as_aux_lemma =>
      refine UpOb.plain rfl fun a W1 hR hl K hK => ?_
      have hD : DR w0 W1 := HDR.out.trans hR
      have h14 : a.tmps.getD 14 undef = (.slice (some ⟨vb, 0, none⟩) 8 8) := hl 14 (by decide)
      replace hK : ∀ v W2, DR W1 W2 → v = (.slice (some ⟨vb, 0, none⟩) 8 8) → K (a.put (some 269) v) W2 := fun v W2 h1 h2 => hK v W2 h1 (fun d hd => by cases hd; exact h2)
      clear hl
      simp only [Array.getD_eq_getD_getElem?] at h14
      go_simp
      exact hK _ W1 (DR.refl W1) rfl
    · as_aux_lemma =>
      refine UpOb.plain rfl fun a W1 hR hl K hK => ?_
      have hD : DR w0 W1 := HDR.out.trans hR
      have h269 : a.tmps.getD 269 undef = (.slice (some ⟨vb, 0, none⟩) 8 8) := hl 269 (by decide)
      replace hK : ∀ v W2, DR W1 W2 → v = (.pointer (some ⟨vb, 0, none⟩)) → K (a.put (some 270) v) W2 := fun v W2 h1 h2 => hK v W2 h1 (fun d hd => by cases hd; exact h2)
      clear hl
      simp only [Array.getD_eq_getD_getElem?] at h269
      go_simp
      exact hK _ W1 (DR.refl W1) rfl
    · as_aux_lemma =>
      refine UpOb.plain rfl fun a W1 hR hl K hK => ?_
      have hD : DR w0 W1 := HDR.out.trans hR
      have h270 : a.tmps.getD 270 undef = (.pointer (some ⟨vb, 0, none⟩)) := hl 270 (by decide)
      replace hK : ∀ v W2, DR W1 W2 → v = (W r.a) → K (a.put (some 271) v) W2 := fun v W2 h1 h2 => hK v W2 h1 (fun d hd => by cases hd; exact h2)
      clear hl
      have hc : W1.cell? ⟨vb, 0, none⟩ = some (W r.a) := (hD.cell _).trans ((HV.out.cell 0).trans rfl)
      simp only [Array.getD_eq_getD_getElem?] at h270
      go_simp
      exact hK _ W1 (DR.refl W1) rfl
    · as_aux_lemma =>
      refine UpOb.plain rfl fun a W1 hR hl K hK => ?_
      have hD : DR w0 W1 := HDR.out.trans hR
      have h14 : a.tmps.getD 14 undef = (.slice (some ⟨vb, 0, none⟩) 8 8) := hl 14 (by decide)
      replace hK : ∀ v W2, DR W1 W2 → v = (.slice (some ⟨vb, 0, none⟩) 8 8) → K (a.put (some 272) v) W2 := fun v W2 h1 h2 => hK v W2 h1 (fun d hd => by cases hd; exact h2)
      clear hl
      simp only [Array.getD_eq_getD_getElem?] at h14
      go_simp
      exact hK _ W1 (DR.refl W1) rfl
    · as_aux_lemma =>
      refine UpOb.plain rfl fun a W1 hR hl K hK => ?_
      have hD : DR w0 W1 := HDR.out.trans hR
      have h272 : a.tmps.getD 272 undef = (.slice (some ⟨vb, 0, none⟩) 8 8) := hl 272 (by decide)
      replace hK : ∀ v W2, DR W1 W2 → v = (.pointer (some ⟨vb, 2, none⟩)) → K (a.put (some 273) v) W2 := fun v W2 h1 h2 => hK v W2 h1 (fun d hd => by cases hd; exact h2)
      clear hl
      simp only [Array.getD_eq_getD_getElem?] at h272
      go_simp
      exact hK _ W1 (DR.refl W1) rfl
    · as_aux_lemma =>
      refine UpOb.plain rfl fun a W1 hR hl K hK => ?_
      have hD : DR w0 W1 := HDR.out.trans hR
      have h273 : a.tmps.getD 273 undef = (.pointer (some ⟨vb, 2, none⟩)) := hl 273 (by decide)
      replace hK : ∀ v W2, DR W1 W2 → v = (W r.c) → K (a.put (some 274) v) W2 := fun v W2 h1 h2 => hK v W2 h1 (fun d hd => by cases hd; exact h2)
      clear hl
      have hc : W1.cell? ⟨vb, 2, none⟩ = some (W r.c) := (hD.cell _).trans ((HV.out.cell 2).trans rfl)
      simp only [Array.getD_eq_getD_getElem?] at h273
      go_simp
      exact hK _ W1 (DR.refl W1) rfl
    · as_aux_lemma =>
      refine UpOb.plain rfl fun a W1 hR hl K hK => ?_
      have hD : DR w0 W1 := HDR.out.trans hR
      have h271 : a.tmps.getD 271 undef = (W r.a) := hl 271 (by decide)
      have h274 : a.tmps.getD 274 undef = (W r.c) := hl 274 (by decide)
      replace hK : ∀ v W2, DR W1 W2 → v = (W (r.a &&& r.c)) → K (a.put (some 275) v) W2 := fun v W2 h1 h2 => hK v W2 h1 (fun d hd => by cases hd; exact h2)
      clear hl
      simp only [Array.getD_eq_getD_getElem?] at h271 h274
      go_simp
      exact hK _ W1 (DR.refl W1) rfl
    · as_aux_lemma =>
      refine UpOb.plain rfl fun a W1 hR hl K hK => ?_
      have hD : DR w0 W1 := HDR.out.trans hR
      have h268 : a.tmps.getD 268 undef = (W (r.a &&& r.b)) := hl 268 (by decide)
      have h275 : a.tmps.getD 275 undef = (W (r.a &&& r.c)) := hl 275 (by decide)
      replace hK : ∀ v W2, DR W1 W2 → v = (W ((r.a &&& r.b) ^^^ (r.a &&& r.c))) → K (a.put (some 276) v) W2 := fun v W2 h1 h2 => hK v W2 h1 (fun d hd => by cases hd; exact h2)
      clear hl
      simp only [Array.getD_eq_getD_getElem?] at h268 h275
      go_simp
      exact hK _ W1 (DR.refl W1) rfl
    · as_aux_lemma =>
      refine UpOb.plain rfl fun a W1 hR hl K hK => ?_
      have hD : DR w0 W1 := HDR.out.trans hR
      have h14 : a.tmps.getD 14 undef = (.slice (some ⟨vb, 0, none⟩) 8 8) := hl 14 (by decide)
      replace hK : ∀ v W2, DR W1 W2 → v = (.slice (some ⟨vb, 0, none⟩) 8 8) → K (a.put (some 277) v) W2 := fun v W2 h1 h2 => hK v W2 h1 (fun d hd => by cases hd; exact h2)
      clear hl
      simp only [Array.getD_eq_getD_getElem?] at h14
      go_simp
      exact hK _ W1 (DR.refl W1) rfl
    · as_aux_lemma =>
      refine UpOb.plain rfl fun a W1 hR hl K hK => ?_
      have hD : DR w0 W1 := HDR.out.trans hR
      have h277 : a.tmps.getD 277 undef = (.slice (some ⟨vb, 0, none⟩) 8 8) := hl 277 (by decide)
      replace hK : ∀ v W2, DR W1 W2 → v = (.pointer (some ⟨vb, 1, none⟩)) → K (a.put (some 278) v) W2 := fun v W2 h1 h2 => hK v W2 h1 (fun d hd => by cases hd; exact h2)
      clear hl
      simp only [Array.getD_eq_getD_getElem?] at h277
      go_simp
      exact hK _ W1 (DR.refl W1) rfl
    · as_aux_lemma =>
      refine UpOb.plain rfl fun a W1 hR hl K hK => ?_
      have hD : DR w0 W1 := HDR.out.trans hR
      have h278 : a.tmps.getD 278 undef = (.pointer (some ⟨vb, 1, none⟩)) := hl 278 (by decide)
      replace hK : ∀ v W2, DR W1 W2 → v = (W r.b) → K (a.put (some 279) v) W2 := fun v W2 h1 h2 => hK v W2 h1 (fun d hd => by cases hd; exact h2)
      clear hl
      have hc : W1.cell? ⟨vb, 1, none⟩ = some (W r.b) := (hD.cell _).trans ((HV.out.cell 1).trans rfl)
      simp only [Array.getD_eq_getD_getElem?] at h278
      go_simp
      exact hK _ W1 (DR.refl W1) rfl
    · as_aux_lemma =>
      refine UpOb.plain rfl fun a W1 hR hl K hK => ?_
      have hD : DR w0 W1 := HDR.out.trans hR
      have h14 : a.tmps.getD 14 undef = (.slice (some ⟨vb, 0, none⟩) 8 8) := hl 14 (by decide)
      replace hK : ∀ v W2, DR W1 W2 → v = (.slice (some ⟨vb, 0, none⟩) 8 8) → K (a.put (some 280) v) W2 := fun v W2 h1 h2 => hK v W2 h1 (fun d hd => by cases hd; exact h2)
      clear hl
      simp only [Array.getD_eq_getD_getElem?] at h14
      go_simp
      exact hK _ W1 (DR.refl W1) rfl
    · as_aux_lemma =>
      refine UpOb.plain rfl fun a W1 hR hl K hK => ?_
      have hD : DR w0 W1 := HDR.out.trans hR
      have h280 : a.tmps.getD 280 undef = (.slice (some ⟨vb, 0, none⟩) 8 8) := hl 280 (by decide)
      replace hK : ∀ v W2, DR W1 W2 → v = (.pointer (some ⟨vb, 2, none⟩)) → K (a.put (some 281) v) W2 := fun v W2 h1 h2 => hK v W2 h1 (fun d hd => by cases hd; exact h2)
      clear hl
      simp only [Array.getD_eq_getD_getElem?] at h280
      go_simp
      exact hK _ W1 (DR.refl W1) rfl
    · as_aux_lemma =>
      refine UpOb.plain rfl fun a W1 hR hl K hK => ?_
      have hD : DR w0 W1 := HDR.out.trans hR
      have h281 : a.tmps.getD 281 undef = (.pointer (some ⟨vb, 2, none⟩)) := hl 281 (by decide)
      replace hK : ∀ v W2, DR W1 W2 → v = (W r.c) → K (a.put (some 282) v) W2 := fun v W2 h1 h2 => hK v W2 h1 (fun d hd => by cases hd; exact h2)
      clear hl
      have hc : W1.cell? ⟨vb, 2, none⟩ = some (W r.c) := (hD.cell _).trans ((HV.out.cell 2).trans rfl)
      simp only [Array.getD_eq_getD_getElem?] at h281
      go_simp
      exact hK _ W1 (DR.refl W1) rfl
    · as_aux_lemma =>
      refine UpOb.plain rfl fun a W1 hR hl K hK => ?_
      have hD : DR w0 W1 := HDR.out.trans hR
      have h279 : a.tmps.getD 279 undef = (W r.b) := hl 279 (by decide)
      have h282 : a.tmps.getD 282 undef = (W r.c) := hl 282 (by decide)
      replace hK : ∀ v W2, DR W1 W2 → v = (W (r.b &&& r.c)) → K (a.put (some 283) v) W2 := fun v W2 h1 h2 => hK v W2 h1 (fun d hd => by cases hd; exact h2)
      clear hl
      simp only [Array.getD_eq_getD_getElem?] at h279 h282
      go_simp
      exact hK _ W1 (DR.refl W1) rfl
    · as_aux_lemma =>
      refine UpOb.plain rfl fun a W1 hR hl K hK => ?_
      have hD : DR w0 W1 := HDR.out.trans hR
      have h276 : a.tmps.getD 276 undef = (W ((r.a &&& r.b) ^^^ (r.a &&& r.c))) := hl 276 (by decide)
      have h283 : a.tmps.getD 283 undef = (W (r.b &&& r.c)) := hl 283 (by decide)
      replace hK : ∀ v W2, DR W1 W2 → v = (W (((r.a &&& r.b) ^^^ (r.a &&& r.c)) ^^^ (r.b &&& r.c))) → K (a.put (some 284) v) W2 := fun v W2 h1 h2 => hK v W2 h1 (fun d hd => by cases hd; exact h2)
      clear hl
      simp only [Array.getD_eq_getD_getElem?] at h276 h283
      go_simp
      exact hK _ W1 (DR.refl W1) rfl
    · as_aux_lemma =>
      refine UpOb.plain rfl fun a W1 hR hl K hK => ?_
      have hD : DR w0 W1 := HDR.out.trans hR
      have h284 : a.tmps.getD 284 undef = (W (((r.a &&& r.b) ^^^ (r.a &&& r.c)) ^^^ (r.b &&& r.c))) := hl 284 (by decide)
      replace hK : ∀ v W2, DR W1 W2 → v = (W (((r.a &&& r.b) ^^^ (r.a &&& r.c)) ^^^ (r.b &&& r.c))) → K (a.put (some 20) v) W2 := fun v W2 h1 h2 => hK v W2 h1 (fun d hd => by cases hd; exact h2)
      clear hl
      simp only [Array.getD_eq_getD_getElem?] at h284
      go_simp
      exact hK _ W1 (DR.refl W1) rfl
  · intro w3 hW
    replace hW : DR w0 w3 := HDR.out.trans hW
    have Hw3 := Lib.hid hW
    clear hW
    simp only [filled, List.foldl, List.setIfInBounds_toArray, List.set, List.drop_succ_cons, List.drop_zero]
    go_wp2
    exact HQ.out _ _ _ _ _ _ _ _ _ _ _ _ _ _ _ _ _ _ _ _ _ _ _ w3 Hw3.out
end Go.Proofs.YtcbfnbmkogeehaaDoor
