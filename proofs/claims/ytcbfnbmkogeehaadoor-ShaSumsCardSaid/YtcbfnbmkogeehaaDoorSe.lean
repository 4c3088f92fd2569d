/- The document's digest: its end. -/
import Derived.Test.YtcbfnbmkogeehaaDoorSd
namespace Go.Proofs.YtcbfnbmkogeehaaDoor
open Go.RowKit

theorem put4_size (cs : Array Value) (j : Nat) (x : UInt32) : (put4 cs j x).size = cs.size := by unfold put4; simp
theorem put4_get (st : St) (cs : Array Value) (j : Nat) (hj : j < 8) (hcs : cs.size = 32) (h : ∀ i, i < 4 * j → cs[i]? = some (U (digB st i))) (i : Nat) (hi : i < 4 * (j + 1)) :
    (put4 cs j (st.list.getD j 0))[i]? = some (U (digB st i)) := by
  have e0 : digB st (4 * j) = (st.list.getD j 0 >>> 24).toUInt8 := by unfold digB; rw [show 4 * j / 4 = j by omega, show 4 * j % 4 = 0 by omega]; rfl
  have e1 : digB st (4 * j + 1) = (st.list.getD j 0 >>> 16).toUInt8 := by unfold digB; rw [show (4 * j + 1) / 4 = j by omega, show (4 * j + 1) % 4 = 1 by omega]; rfl
  have e2 : digB st (4 * j + 2) = (st.list.getD j 0 >>> 8).toUInt8 := by unfold digB; rw [show (4 * j + 2) / 4 = j by omega, show (4 * j + 2) % 4 = 2 by omega]; rfl
  have e3 : digB st (4 * j + 3) = (st.list.getD j 0).toUInt8 := by unfold digB; rw [show (4 * j + 3) / 4 = j by omega, show (4 * j + 3) % 4 = 3 by omega]; exact congrArg UInt32.toUInt8 (UInt32.shiftRight_zero)
  unfold put4
  by_cases c3 : i = 4 * j + 3
  · subst c3
    rw [Array.getElem?_setIfInBounds_self_of_lt (by simp; omega), e3]
  rw [Array.getElem?_setIfInBounds_ne (fun h => c3 h.symm)]
  by_cases c2 : i = 4 * j + 2
  · subst c2
    rw [Array.getElem?_setIfInBounds_self_of_lt (by simp; omega), e2]
  rw [Array.getElem?_setIfInBounds_ne (fun h => c2 h.symm)]
  by_cases c1 : i = 4 * j + 1
  · subst c1
    rw [Array.getElem?_setIfInBounds_self_of_lt (by simp; omega), e1]
  rw [Array.getElem?_setIfInBounds_ne (fun h => c1 h.symm)]
  by_cases c0 : i = 4 * j
  · subst c0
    rw [Array.getElem?_setIfInBounds_self_of_lt (by omega), e0]
  rw [Array.getElem?_setIfInBounds_ne (fun h => c0 h.symm)]
  exact h i (by omega)
/-- The part of a body that begins with a region. -/
def seqAt (n : Nat) : Code → Option Code
  | .seq (.region id ops d) b => if id = n then some (.seq (.region id ops d) b) else seqAt n b
  | .seq a b => (seqAt n a).or (seqAt n b)
  | .block _ c => seqAt n c
  | .scope c => seqAt n c
  | .loop c => seqAt n c
  | .cond _ a b => (seqAt n a).or (seqAt n b)
  | _ => none
noncomputable def tail41 : Code := (Tryd.f8.body.bind (seqAt 41)).getD .skip
theorem zero25x (w : World) : (zeroValue 25).run Tryd.prog w = .ok (.agg (Array.replicate 32 (.int .u8 0))) w := by kernel_rfl
attribute [local irreducible] wpList in
set_option maxRecDepth 100000 in
set_option maxHeartbeats 8000000 in
theorem tail8 (R hb : Nat) (st : St) (rs : Array Value) (w1 : World) (Q : Exit → Act → World → Prop) (u0 u1 u3 u4 u5 u7 u8 u9 u10 u11 u12 u13 u14 u15 u16 u17 u18 u19 u20 u21 u22 u23 u24 u25 u26 u27 u28 u29 u30 u31 u32 u33 u34 u35 u36 u37 u38 u39 u40 u41 u42 u43 u44 u45 u46 u47 u48 u49 u50 u51 u52 u53 u54 u55 u56 u57 u58 u59 u60 u61 u62 u63 u64 u65 u66 u67 u68 u69 u70 u71 u72 u73 u74 u75 u76 u77 u78 u79 u80 u81 u82 u83 u84 u85 u86 u87 u88 u89 u90 u91 u92 u93 u94 u95 u96 u97 u98 u99 u100 u101 u102 u103 u104 u105 u106 u107 u108 u109 u110 u111 u112 u113 u114 u115 u116 u117 u118 u119 u120 u121 u122 u123 u124 u125 u126 u127 u128 u129 u130 u131 u132 u133 u134 u135 u136 u137 u138 u139 u140 u141 u142 u143 u144 u145 u146 u147 u148 u149 u150 u151 u152 u153 u154 u155 u156 u157 u158 u159 u160 u161 u162 u163 u164 u165 u166 u167 u168 u169 u170 u171 u172 u173 u174 u175 u176 u177 u178 u179 u180 u181 u182 u183 u184 u185 u186 u187 u188 u189 u190 u191 u192 u193 u194 u195 u196 u197 u198 u199 u200 u201 u202 u203 u204 u205 u206 u207 u208 u209 u210 u211 u212 u213 u214 u215 u216 u217 u218 u219 u220 u221 u222 u223 u224 u225 u226 u227 u228 u229 u230 u231 u232 u233 u234 u235 u236 u237 u238 u239 u240 u241 u242 u243 u244 u245 u246 u247 u248 u249 u250 u251 u252 u253 u254 u255 u256 u257 u258 u259 u260 u261 u262 u263 u264 u265 u266 u267 u268 u269 u270 u271 u272 u273 u274 u275 u276 u277 u278 u279 u280 u281 u282 u283 u284 u285 u286 u287 u288 u289 u290 u291 u292 u293 u294 u295 u296 u297 u298 u299 u300 u301 u302 u303 u304 u305 u306 u307 u308 u309 u310 u311 u312 u313 u314 u315 u316 u317 u318 u319 u320 u321 u322 u323 u324 u325 u326 u327 u328 u329 u330 u331 u332 u333 u334 u335 u336 u337 u338 u339 u340 u341 u342 u343 u344 u345 u346 u347 u348 u349 u350 u351 u352 u353 u354 u355 u356 u357 u358 u359 u360 u361 u362 u363 u364 u365 u366 u367 u368 u369 u370 u371 u372 u373 : Value)
    (hne : hb ≠ R) (hh : Blk w1 hb 52 (st.list.map W).toArray) (hR : Blk w1 R 25 rs) (hrs : rs.size = 32)
    (hq : ∀ (n23 n24 n331 n332 n333 n334 n335 n336 n337 n338 n339 n340 n341 n342 n343 n344 n345 n346 n347 n348 n349 n350 n351 n352 n353 n354 n355 n356 n357 n358 n359 n360 n361 n362 n363 n364 n365 n366 n367 n368 n369 n370 n371 n372 n373 : Value) (w' : World), Ex R w1 w' → Blk w' R 25 (((List.range 32).map (digB st)).map U).toArray → Q .ret ⟨#[u0, u1, .pointer (some ⟨R, 0, none⟩), u3, u4, u5, .slice (some ⟨hb, 0, none⟩) 8 8, u7, u8, u9, u10, u11, u12, u13, u14, u15, u16, u17, u18, u19, u20, u21, u22, n23, n24, u25, u26, u27, u28, u29, u30, u31, u32, u33, u34, u35, u36, u37, u38, u39, u40, u41, u42, u43, u44, u45, u46, u47, u48, u49, u50, u51, u52, u53, u54, u55, u56, u57, u58, u59, u60, u61, u62, u63, u64, u65, u66, u67, u68, u69, u70, u71, u72, u73, u74, u75, u76, u77, u78, u79, u80, u81, u82, u83, u84, u85, u86, u87, u88, u89, u90, u91, u92, u93, u94, u95, u96, u97, u98, u99, u100, u101, u102, u103, u104, u105, u106, u107, u108, u109, u110, u111, u112, u113, u114, u115, u116, u117, u118, u119, u120, u121, u122, u123, u124, u125, u126, u127, u128, u129, u130, u131, u132, u133, u134, u135, u136, u137, u138, u139, u140, u141, u142, u143, u144, u145, u146, u147, u148, u149, u150, u151, u152, u153, u154, u155, u156, u157, u158, u159, u160, u161, u162, u163, u164, u165, u166, u167, u168, u169, u170, u171, u172, u173, u174, u175, u176, u177, u178, u179, u180, u181, u182, u183, u184, u185, u186, u187, u188, u189, u190, u191, u192, u193, u194, u195, u196, u197, u198, u199, u200, u201, u202, u203, u204, u205, u206, u207, u208, u209, u210, u211, u212, u213, u214, u215, u216, u217, u218, u219, u220, u221, u222, u223, u224, u225, u226, u227, u228, u229, u230, u231, u232, u233, u234, u235, u236, u237, u238, u239, u240, u241, u242, u243, u244, u245, u246, u247, u248, u249, u250, u251, u252, u253, u254, u255, u256, u257, u258, u259, u260, u261, u262, u263, u264, u265, u266, u267, u268, u269, u270, u271, u272, u273, u274, u275, u276, u277, u278, u279, u280, u281, u282, u283, u284, u285, u286, u287, u288, u289, u290, u291, u292, u293, u294, u295, u296, u297, u298, u299, u300, u301, u302, u303, u304, u305, u306, u307, u308, u309, u310, u311, u312, u313, u314, u315, u316, u317, u318, u319, u320, u321, u322, u323, u324, u325, u326, u327, u328, u329, u330, n331, n332, n333, n334, n335, n336, n337, n338, n339, n340, n341, n342, n343, n344, n345, n346, n347, n348, n349, n350, n351, n352, n353, n354, n355, n356, n357, n358, n359, n360, n361, n362, n363, n364, n365, n366, n367, n368, n369, n370, n371, n372, n373], []⟩ w') :
    Code.wp Tryd.prog tail41 Q ⟨#[u0, u1, .pointer (some ⟨R, 0, none⟩), u3, u4, u5, .slice (some ⟨hb, 0, none⟩) 8 8, u7, u8, u9, u10, u11, u12, u13, u14, u15, u16, u17, u18, u19, u20, u21, u22, u23, u24, u25, u26, u27, u28, u29, u30, u31, u32, u33, u34, u35, u36, u37, u38, u39, u40, u41, u42, u43, u44, u45, u46, u47, u48, u49, u50, u51, u52, u53, u54, u55, u56, u57, u58, u59, u60, u61, u62, u63, u64, u65, u66, u67, u68, u69, u70, u71, u72, u73, u74, u75, u76, u77, u78, u79, u80, u81, u82, u83, u84, u85, u86, u87, u88, u89, u90, u91, u92, u93, u94, u95, u96, u97, u98, u99, u100, u101, u102, u103, u104, u105, u106, u107, u108, u109, u110, u111, u112, u113, u114, u115, u116, u117, u118, u119, u120, u121, u122, u123, u124, u125, u126, u127, u128, u129, u130, u131, u132, u133, u134, u135, u136, u137, u138, u139, u140, u141, u142, u143, u144, u145, u146, u147, u148, u149, u150, u151, u152, u153, u154, u155, u156, u157, u158, u159, u160, u161, u162, u163, u164, u165, u166, u167, u168, u169, u170, u171, u172, u173, u174, u175, u176, u177, u178, u179, u180, u181, u182, u183, u184, u185, u186, u187, u188, u189, u190, u191, u192, u193, u194, u195, u196, u197, u198, u199, u200, u201, u202, u203, u204, u205, u206, u207, u208, u209, u210, u211, u212, u213, u214, u215, u216, u217, u218, u219, u220, u221, u222, u223, u224, u225, u226, u227, u228, u229, u230, u231, u232, u233, u234, u235, u236, u237, u238, u239, u240, u241, u242, u243, u244, u245, u246, u247, u248, u249, u250, u251, u252, u253, u254, u255, u256, u257, u258, u259, u260, u261, u262, u263, u264, u265, u266, u267, u268, u269, u270, u271, u272, u273, u274, u275, u276, u277, u278, u279, u280, u281, u282, u283, u284, u285, u286, u287, u288, u289, u290, u291, u292, u293, u294, u295, u296, u297, u298, u299, u300, u301, u302, u303, u304, u305, u306, u307, u308, u309, u310, u311, u312, u313, u314, u315, u316, u317, u318, u319, u320, u321, u322, u323, u324, u325, u326, u327, u328, u329, u330, u331, u332, u333, u334, u335, u336, u337, u338, u339, u340, u341, u342, u343, u344, u345, u346, u347, u348, u349, u350, u351, u352, u353, u354, u355, u356, u357, u358, u359, u360, u361, u362, u363, u364, u365, u366, u367, u368, u369, u370, u371, u372, u373], []⟩ w1 := by
  have HQ := Lib.hid hq
  have HH := Lib.hid hh
  have HR := Lib.hid hR
  have HRS := Lib.hid hrs
  have hlR := hR.lt
  have hlh := hh.lt
  have hz := zero25x
  clear hh hR hrs hq
  conv => arg 2; whnf
  go_wp2
  have hob := Blk.fresh w1 25 (Array.replicate 32 (.int .u8 0))
  have hx1 : Ex R w1 (w1.alloc (.cells (Array.replicate 32 (.int .u8 0)) 25)) := Ex.alloc R w1 _
  have hh1 := HH.out.more (.cells (Array.replicate 32 (.int .u8 0)) 25)
  have hR1 := HR.out.more (.cells (Array.replicate 32 (.int .u8 0)) 25)
  have hoh : hb ≠ w1.heap.size := by omega
  have hoR : R ≠ w1.heap.size := by omega
  have hsz : (w1.alloc (.cells (Array.replicate 32 (.int .u8 0)) 25)).heap.size = w1.heap.size + 1 := by simp
  generalize w1.alloc (.cells (Array.replicate 32 (.int .u8 0)) 25) = w2 at *
  generalize hgo : w1.heap.size = ob at *
  have HOB := Lib.hid hob
  have HX1 := Lib.hid hx1
  have HH1 := Lib.hid hh1
  have HR1 := Lib.hid hR1
  have HGO := Lib.hid hgo
  clear hob hx1 hh1 hR1 hz hsz hgo
  go_loopw [24] (fun i wr => ∃ (j : Nat) (cs : Array Value), j ≤ 8 ∧ i = .int .i64 j ∧ Ex ob w2 wr ∧ Blk wr ob 25 cs ∧ cs.size = 32 ∧ ∀ i, i < 4 * j → cs[i]? = some (U (digB st i))) (fun i _ => 8 - (intOf i).toNat)
  case atStart => exact ⟨0, _, Nat.zero_le _, rfl, Ex.refl _ _, HOB.out, Array.size_replicate, fun i hi => absurd hi (by omega)⟩
  case round =>
    obtain ⟨j, cs, hj, rfl, hx, hb8, hc, hd⟩ := hrel
    have HX := Lib.hid hx
    have HB := Lib.hid hb8
    have HC := Lib.hid hc
    have HD := Lib.hid hd
    clear hx hb8 hc hd
    by_cases hlt : j < 8
    · refine round8 hb ob j (st.list.getD j 0) cs wr _ _ _ _ _ _ _ _ _ _ _ _ _ _ _ _ _ _ _ _ _ _ _ _ _ _ _ _ _ _ _ _ _ _ _ _ _ _ _ _ _ _ _ _ _ _ _ _ _ _ _ _ _ _ _ _ _ _ _ _ _ _ _ _ _ _ _ _ _ _ _ _ _ _ _ _ _ _ _ _ _ _ _ _ _ _ _ _ _ _ _ _ _ _ _ _ _ _ _ _ _ _ _ _ _ _ _ _ _ _ _ _ _ _ _ _ _ _ _ _ _ _ _ _ _ _ _ _ _ _ _ _ _ _ _ _ _ _ _ _ _ _ _ _ _ _ _ _ _ _ _ _ _ _ _ _ _ _ _ _ _ _ _ _ _ _ _ _ _ _ _ _ _ _ _ _ _ _ _ _ _ _ _ _ _ _ _ _ _ _ _ _ _ _ _ _ _ _ _ _ _ _ _ _ _ _ _ _ _ _ _ _ _ _ _ _ _ _ _ _ _ _ _ _ _ _ _ _ _ _ _ _ _ _ _ _ _ _ _ _ _ _ _ _ _ _ _ _ _ _ _ _ _ _ _ _ _ _ _ _ _ _ _ _ _ _ _ _ _ _ _ _ _ _ _ _ _ _ _ _ _ _ _ _ _ _ _ _ _ _ _ _ _ _ _ _ _ _ _ _ _ _ _ _ _ _ _ _ _ _ _ _ _ _ _ _ _ _ _ _ _ _ _ _ _ _ _ _ _ _ _ _ _ _ _ _ _ _ _ _ _ _ _ _ _ _ _ _ _ _ _ _ _ _ _ _ _ _ _ _ _ _ _ _ _ _ _ _ _ _ _ _ (st.list.map W).toArray hlt hoh (HX.out.blk HH1.out hoh) HB.out HC.out (by rw [← HH1.out.cell]; exact (HH1.out.cell j).trans (st_get st j hlt)) ?_
      intro _ _ _ _ _ _ _ _ _ _ _ _ _ _ _ _ _ _ _ _ _ _ _ _ _ _ _ _ _ _ _ _ _ _ _ _ _ _ _ _ _ _ w9 hE hB9
      have HE := Lib.hid hE
      have HB9 := Lib.hid hB9
      clear hE hB9
      go_wp2
      go_roundw
      case rel => exact ⟨j + 1, _, by omega, by go_num, HX.out.trans HE.out, HB9.out, by rw [put4_size]; exact HC.out, fun i hi => put4_get st cs j hlt HC.out HD.out i hi⟩
      case measure => simp [intOf]; omega
    · obtain rfl : j = 8 := by omega
      have eds : cs = (((List.range 32).map (digB st)).map U).toArray := row_eq cs _ HC.out (by simp) fun j hj => by rw [HD.out j (by omega)]; simp [hj]
      have hsz : (((List.range 32).map (digB st)).map U).toArray.size = 32 := by simp
      have hall : (((List.range 32).map (digB st)).map U).toArray.all (·.oneCell') = true := by simp; intro x _; rfl
      have hi32 : (Tryd.prog.info? 25).map (·.size) = some (((List.range 32).map (digB st)).map U).toArray.size := by rw [hsz]; rfl
      have ho32 : rs.size = (((List.range 32).map (digB st)).map U).toArray.size := by rw [HRS.out, hsz]
      rw [eds] at HB
      clear HC HD
      generalize (((List.range 32).map (digB st)).map U).toArray = ds at *
      clear eds hsz
      have HALL := Lib.hid hall
      have HI2 := Lib.hid hi32
      have HO := Lib.hid ho32
      have HRR := Lib.hid (HX.out.blk HR1.out hoR)
      clear hall hi32 ho32
      go_wp2_with (first | refine wpList_load_row rfl 25 _ rfl ob rfl 25 _ (0, 0) _ HB.out Tryd.underlying25 rfl HI2.out ?_ | refine wpList_store_row rfl 25 _ _ rfl R _ rfl rfl 25 rs HRR.out HI2.out HO.out HALL.out ?_)
      refine HQ.out _ _ _ _ _ _ _ _ _ _ _ _ _ _ _ _ _ _ _ _ _ _ _ _ _ _ _ _ _ _ _ _ _ _ _ _ _ _ _ _ _ _ _ _ _ _ ?_ (HRR.out.setRow _)
      have a := HX1.out
      have b := HX.out
      have c := Ex.setRow R wr ds
      exact ⟨c.os.trans (b.os.trans a.os), c.tape.trans (b.tape.trans a.tape), c.output.trans (b.output.trans a.output), Nat.le_trans a.size (Nat.le_trans b.size c.size), fun i hi hn => (c.block i (Nat.lt_of_lt_of_le hi (Nat.le_trans a.size b.size)) hn).trans ((b.block i (Nat.lt_of_lt_of_le hi a.size) (by have := HGO.out; omega)).trans (a.block i hi hn))⟩
end Go.Proofs.YtcbfnbmkogeehaaDoor
