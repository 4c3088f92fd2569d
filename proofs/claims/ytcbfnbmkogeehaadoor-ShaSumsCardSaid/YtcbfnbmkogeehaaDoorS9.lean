/- The document's digest: a round of its turns. -/
import Derived.OrdersHeld
import Derived.Test.YtcbfnbmkogeehaaDoorT7
import Derived.Test.YtcbfnbmkogeehaaDoorR1
namespace Go.Proofs.YtcbfnbmkogeehaaDoor
open Go.RowKit

section
variable {P : Program} {ops : Array Oper} {Q : Exit → Act → World → Prop}
theorem wpOp_of {i : Nat} {o : Oper} {K : Act → World → Prop} {a : Act} {w : World} (ho : ops[i]? = some o) (hg : o.guard = none) (h : o.wp P a w K Q) : wpOp P ops Q i K a w := by
  unfold wpOp
  simp only [ho]
  rw [if_pos (by simp [Region.wanted, hg])]
  exact .inl h
/-- The one that may come up comes up. -/
theorem wpAnyH_one {i : Nat} {o : Oper} {fuel : Nat} {listed : Array Bool} {a : Act} {w : World} {S : World → Prop} {md : Region.Mode} (hr : Region.ready md ops listed = [i]) (ho : ops[i]? = some o) (hg : o.guard = none)
    (h : o.wp P a w (fun a' w' => S w' ∧ wpAnyH P md ops Q S fuel (listed.setIfInBounds i true) a' w') Q) : wpAnyH P md ops Q S (fuel + 1) listed a w :=
  wpAnyH_all hr (by simp) (fun j hj => by obtain rfl := List.mem_singleton.1 hj; exact wpOp_of ho hg h)
end
theorem put_defers (a : Act) (d : Option Tmp) (v : Value) : (a.put d v).defers = a.defers := by cases d <;> rfl
/-- All loops of a body, as they stand. -/
def loopsOf : Code → List Code
  | .loop c => c :: loopsOf c
  | .seq a b => loopsOf a ++ loopsOf b
  | .block _ c => loopsOf c
  | .scope c => loopsOf c
  | .cond _ a b => loopsOf a ++ loopsOf b
  | _ => []
noncomputable def body6 : Code := (((Tryd.f8.body.map loopsOf).getD [])[5]?).getD .skip
theorem Below.drewDR {x y : World} (h : DR x y) : Below x.heap.size x y := by
  obtain ⟨N, rfl⟩ := h
  exact ⟨rfl, rfl, rfl, Nat.le_refl _, fun _ _ => rfl⟩
theorem qturn_cells (r : St) (kx sx : UInt32) : ((r.qturn kx sx).list.map W).toArray = #[W (((((((r.h + (((rotr (r.e) 6) ^^^ (rotr (r.e) 11)) ^^^ (rotr (r.e) 25))) + ((r.e &&& r.f) ^^^ ((4294967295 - r.e) &&& r.g))) + kx) + sx)) + (((((rotr (r.a) 2) ^^^ (rotr (r.a) 13)) ^^^ (rotr (r.a) 22)) + (((r.a &&& r.b) ^^^ (r.a &&& r.c)) ^^^ (r.b &&& r.c)))))), W (r.a), W (r.b), W (r.c), W ((r.d + (((((r.h + (((rotr (r.e) 6) ^^^ (rotr (r.e) 11)) ^^^ (rotr (r.e) 25))) + ((r.e &&& r.f) ^^^ ((4294967295 - r.e) &&& r.g))) + kx) + sx)))), W (r.e), W (r.f), W (r.g)] := rfl

/-- The regions of a body. -/
def regOf (n : Nat) : Code → Option Code
  | .region id ops d => if id = n then some (.region id ops d) else none
  | .seq a b => (regOf n a).or (regOf n b)
  | .block _ c => regOf n c
  | .scope c => regOf n c
  | .loop c => regOf n c
  | .cond _ a b => (regOf n a).or (regOf n b)
  | _ => none
noncomputable def code36 : Code := (Tryd.f8.body.bind (regOf 36)).getD .skip
attribute [local irreducible] wpList in
set_option maxRecDepth 100000 in
set_option maxHeartbeats 1500000 in
theorem reg36 (vb : Nat) (r : St) (X1 X2 : UInt32) (wr : World) (Q : Exit → Act → World → Prop) (u0 u1 u2 u3 u4 u5 u6 u7 u8 u9 u10 u11 u12 u13 u15 u16 u17 u19 u20 u22 u23 u24 u25 u26 u27 u28 u29 u30 u31 u32 u33 u34 u35 u36 u37 u38 u39 u40 u41 u42 u43 u44 u45 u46 u47 u48 u49 u50 u51 u52 u53 u54 u55 u56 u57 u58 u59 u60 u61 u62 u63 u64 u65 u66 u67 u68 u69 u70 u71 u72 u73 u74 u75 u76 u77 u78 u79 u80 u81 u82 u83 u84 u85 u86 u87 u88 u89 u90 u91 u92 u93 u94 u95 u96 u97 u98 u99 u100 u101 u102 u103 u104 u105 u106 u107 u108 u109 u110 u111 u112 u113 u114 u115 u116 u117 u118 u119 u120 u121 u122 u123 u124 u125 u126 u127 u128 u129 u130 u131 u132 u133 u134 u135 u136 u137 u138 u139 u140 u141 u142 u143 u144 u145 u146 u147 u148 u149 u150 u151 u152 u153 u154 u155 u156 u157 u158 u159 u160 u161 u162 u163 u164 u165 u166 u167 u168 u169 u170 u171 u172 u173 u174 u175 u176 u177 u178 u179 u180 u181 u182 u183 u184 u185 u186 u187 u188 u189 u190 u191 u192 u193 u194 u195 u196 u197 u198 u199 u200 u201 u202 u203 u204 u205 u206 u207 u208 u209 u210 u211 u212 u213 u214 u215 u216 u217 u218 u219 u220 u221 u222 u223 u224 u225 u226 u227 u228 u229 u230 u231 u232 u233 u234 u235 u236 u237 u238 u239 u240 u241 u242 u243 u244 u245 u246 u247 u248 u249 u250 u251 u252 u253 u254 u255 u256 u257 u258 u259 u260 u261 u262 u263 u264 u265 u266 u267 u268 u269 u270 u271 u272 u273 u274 u275 u276 u277 u278 u279 u280 u281 u282 u283 u284 u285 u286 u287 u288 u289 u290 u291 u292 u293 u294 u295 u296 u297 u298 u299 u300 u301 u302 u303 u304 u305 u306 u307 u308 u309 u310 u311 u312 u313 u314 u315 u316 u317 u318 u319 u320 u321 u322 u323 u324 u325 u326 u327 u328 u329 u330 u331 u332 u333 u334 u335 u336 u337 u338 u339 u340 u341 u342 u343 u344 u345 u346 u347 u348 u349 u350 u351 u352 u353 u354 u355 u356 u357 u358 u359 u360 u361 u362 u363 u364 u365 u366 u367 u368 u369 u370 u371 u372 u373 : Value)
    (hv : Blk wr vb 52 (r.list.map W).toArray) (hp : ∀ c a a' w, a.defers = a'.defers → Q (.panic c) a w → Q (.panic c) a' w)
    (hq : ∀ (n288 n289 n290 n291 n292 n293 n294 n295 n296 n297 n298 n299 n300 n301 n302 n303 n304 n305 n306 n307 n308 n309 n310 n311 n312 n313 n314 : Value) (vb2 : Nat) (w' : World), Below wr.heap.size wr w' → wr.heap.size ≤ vb2 → Blk w' vb2 52 #[W ((X1 + X2)), W (r.a), W (r.b), W (r.c), W ((r.d + X1)), W (r.e), W (r.f), W (r.g)] → Q .normal ⟨#[u0, u1, u2, u3, u4, u5, u6, u7, u8, u9, u10, u11, u12, u13, .slice (some ⟨vb2, 0, none⟩) 8 8, u15, u16, u17, W X1, u19, u20, W X2, u22, u23, u24, u25, u26, u27, u28, u29, u30, u31, u32, u33, u34, u35, u36, u37, u38, u39, u40, u41, u42, u43, u44, u45, u46, u47, u48, u49, u50, u51, u52, u53, u54, u55, u56, u57, u58, u59, u60, u61, u62, u63, u64, u65, u66, u67, u68, u69, u70, u71, u72, u73, u74, u75, u76, u77, u78, u79, u80, u81, u82, u83, u84, u85, u86, u87, u88, u89, u90, u91, u92, u93, u94, u95, u96, u97, u98, u99, u100, u101, u102, u103, u104, u105, u106, u107, u108, u109, u110, u111, u112, u113, u114, u115, u116, u117, u118, u119, u120, u121, u122, u123, u124, u125, u126, u127, u128, u129, u130, u131, u132, u133, u134, u135, u136, u137, u138, u139, u140, u141, u142, u143, u144, u145, u146, u147, u148, u149, u150, u151, u152, u153, u154, u155, u156, u157, u158, u159, u160, u161, u162, u163, u164, u165, u166, u167, u168, u169, u170, u171, u172, u173, u174, u175, u176, u177, u178, u179, u180, u181, u182, u183, u184, u185, u186, u187, u188, u189, u190, u191, u192, u193, u194, u195, u196, u197, u198, u199, u200, u201, u202, u203, u204, u205, u206, u207, u208, u209, u210, u211, u212, u213, u214, u215, u216, u217, u218, u219, u220, u221, u222, u223, u224, u225, u226, u227, u228, u229, u230, u231, u232, u233, u234, u235, u236, u237, u238, u239, u240, u241, u242, u243, u244, u245, u246, u247, u248, u249, u250, u251, u252, u253, u254, u255, u256, u257, u258, u259, u260, u261, u262, u263, u264, u265, u266, u267, u268, u269, u270, u271, u272, u273, u274, u275, u276, u277, u278, u279, u280, u281, u282, u283, u284, u285, u286, u287, n288, n289, n290, n291, n292, n293, n294, n295, n296, n297, n298, n299, n300, n301, n302, n303, n304, n305, n306, n307, n308, n309, n310, n311, n312, n313, n314, u315, u316, u317, u318, u319, u320, u321, u322, u323, u324, u325, u326, u327, u328, u329, u330, u331, u332, u333, u334, u335, u336, u337, u338, u339, u340, u341, u342, u343, u344, u345, u346, u347, u348, u349, u350, u351, u352, u353, u354, u355, u356, u357, u358, u359, u360, u361, u362, u363, u364, u365, u366, u367, u368, u369, u370, u371, u372, u373], []⟩ w') :
    Code.wp Tryd.prog code36 Q ⟨#[u0, u1, u2, u3, u4, u5, u6, u7, u8, u9, u10, u11, u12, u13, .slice (some ⟨vb, 0, none⟩) 8 8, u15, u16, u17, W X1, u19, u20, W X2, u22, u23, u24, u25, u26, u27, u28, u29, u30, u31, u32, u33, u34, u35, u36, u37, u38, u39, u40, u41, u42, u43, u44, u45, u46, u47, u48, u49, u50, u51, u52, u53, u54, u55, u56, u57, u58, u59, u60, u61, u62, u63, u64, u65, u66, u67, u68, u69, u70, u71, u72, u73, u74, u75, u76, u77, u78, u79, u80, u81, u82, u83, u84, u85, u86, u87, u88, u89, u90, u91, u92, u93, u94, u95, u96, u97, u98, u99, u100, u101, u102, u103, u104, u105, u106, u107, u108, u109, u110, u111, u112, u113, u114, u115, u116, u117, u118, u119, u120, u121, u122, u123, u124, u125, u126, u127, u128, u129, u130, u131, u132, u133, u134, u135, u136, u137, u138, u139, u140, u141, u142, u143, u144, u145, u146, u147, u148, u149, u150, u151, u152, u153, u154, u155, u156, u157, u158, u159, u160, u161, u162, u163, u164, u165, u166, u167, u168, u169, u170, u171, u172, u173, u174, u175, u176, u177, u178, u179, u180, u181, u182, u183, u184, u185, u186, u187, u188, u189, u190, u191, u192, u193, u194, u195, u196, u197, u198, u199, u200, u201, u202, u203, u204, u205, u206, u207, u208, u209, u210, u211, u212, u213, u214, u215, u216, u217, u218, u219, u220, u221, u222, u223, u224, u225, u226, u227, u228, u229, u230, u231, u232, u233, u234, u235, u236, u237, u238, u239, u240, u241, u242, u243, u244, u245, u246, u247, u248, u249, u250, u251, u252, u253, u254, u255, u256, u257, u258, u259, u260, u261, u262, u263, u264, u265, u266, u267, u268, u269, u270, u271, u272, u273, u274, u275, u276, u277, u278, u279, u280, u281, u282, u283, u284, u285, u286, u287, u288, u289, u290, u291, u292, u293, u294, u295, u296, u297, u298, u299, u300, u301, u302, u303, u304, u305, u306, u307, u308, u309, u310, u311, u312, u313, u314, u315, u316, u317, u318, u319, u320, u321, u322, u323, u324, u325, u326, u327, u328, u329, u330, u331, u332, u333, u334, u335, u336, u337, u338, u339, u340, u341, u342, u343, u344, u345, u346, u347, u348, u349, u350, u351, u352, u353, u354, u355, u356, u357, u358, u359, u360, u361, u362, u363, u364, u365, u366, u367, u368, u369, u370, u371, u372, u373], []⟩ wr := by
  have HV := Lib.hid hv
  have HQ := Lib.hid hq
  have HP := Lib.hid hp
  have s5 := run_add
  clear hv hq hp
  conv => arg 2; whnf
  have HB36 := Lib.hid (HV.out.drew)
  refine wp_region_held (S := fun W0 : World => Blk W0 vb 52 (r.list.map W).toArray) (by kernel_rfl) ?_
  show wpAnyH _ _ _ _ _ _ _ _ wr.drew
  refine wpAnyH_take (i := 0) (oi := ({ dst := some 288, op := Op.move (Operand.tmp 18), type := 52, pos := "ref.go:54", after := #[], guard := none } : Oper)) (v := W X1) rfl (by kernel_rfl) (by kernel_rfl) (by kernel_rfl) (fun c _ w h => HP.out c _ _ w (put_defers _ _ _) h) (Or.inl ⟨by rfl, ?_⟩) HB36.out ?_
  · as_aux_lemma =>
      intro w9 hSw
      go_simp
  simp only [Act.put, List.setIfInBounds_toArray, List.set_cons_zero, List.set_cons_succ]
  refine wpAnyH_take (i := 1) (oi := ({ dst := some 289, op := Op.move (Operand.tmp 21), type := 52, pos := "ref.go:54", after := #[], guard := none } : Oper)) (v := W X2) rfl (by kernel_rfl) (by kernel_rfl) (by kernel_rfl) (fun c _ w h => HP.out c _ _ w (put_defers _ _ _) h) (Or.inl ⟨by rfl, ?_⟩) HB36.out ?_
  · as_aux_lemma =>
      intro w9 hSw
      go_simp
  simp only [Act.put, List.setIfInBounds_toArray, List.set_cons_zero, List.set_cons_succ]
  refine wpAnyH_take (i := 2) (oi := ({ dst := some 290, op := Op.binOp BinOp.add 52 (Operand.tmp 288) (Operand.tmp 289) 52, type := 52, pos := "ref.go:54", after := #[{ on := 0, ground := Ground.data }, { on := 1, ground := Ground.data }], guard := none } : Oper)) (v := W (X1 + X2)) rfl (by kernel_rfl) (by kernel_rfl) (by kernel_rfl) (fun c _ w h => HP.out c _ _ w (put_defers _ _ _) h) (Or.inl ⟨by rfl, ?_⟩) HB36.out ?_
  · as_aux_lemma =>
      intro w9 hSw
      go_simp
  simp only [Act.put, List.setIfInBounds_toArray, List.set_cons_zero, List.set_cons_succ]
  refine wpAnyH_take (i := 3) (oi := ({ dst := some 291, op := Op.move (Operand.tmp 14), type := 53, pos := "ref.go:54", after := #[], guard := none } : Oper)) (v := .slice (some ⟨vb, 0, none⟩) 8 8) rfl (by kernel_rfl) (by kernel_rfl) (by kernel_rfl) (fun c _ w h => HP.out c _ _ w (put_defers _ _ _) h) (Or.inl ⟨by rfl, ?_⟩) HB36.out ?_
  · as_aux_lemma =>
      intro w9 hSw
      go_simp
  simp only [Act.put, List.setIfInBounds_toArray, List.set_cons_zero, List.set_cons_succ]
  refine wpAnyH_take (i := 4) (oi := ({ dst := some 292, op := Op.indexAddr 53 (Operand.tmp 291) (Operand.const (Value.int IntKind.i64 0)), type := 0, pos := "ref.go:54", after := #[{ on := 3, ground := Ground.data }], guard := none } : Oper)) (v := .pointer (some ⟨vb, 0, none⟩)) rfl (by kernel_rfl) (by kernel_rfl) (by kernel_rfl) (fun c _ w h => HP.out c _ _ w (put_defers _ _ _) h) (Or.inl ⟨by rfl, ?_⟩) HB36.out ?_
  · as_aux_lemma =>
      intro w9 hSw
      go_simp
  simp only [Act.put, List.setIfInBounds_toArray, List.set_cons_zero, List.set_cons_succ]
  refine wpAnyH_take (i := 5) (oi := ({ dst := some 293, op := Op.load 52 (Operand.tmp 292), type := 52, pos := "ref.go:54", after := #[{ on := 4, ground := Ground.data }], guard := none } : Oper)) (v := W r.a) rfl (by kernel_rfl) (by kernel_rfl) (by kernel_rfl) (fun c _ w h => HP.out c _ _ w (put_defers _ _ _) h) (Or.inl ⟨by rfl, ?_⟩) HB36.out ?_
  · as_aux_lemma =>
      intro w9 hSw
      have hc : w9.cell? ⟨vb, 0, none⟩ = some (W r.a) := (hSw.cell 0).trans rfl
      go_simp
  simp only [Act.put, List.setIfInBounds_toArray, List.set_cons_zero, List.set_cons_succ]
  refine wpAnyH_take (i := 6) (oi := ({ dst := some 294, op := Op.move (Operand.tmp 14), type := 53, pos := "ref.go:54", after := #[], guard := none } : Oper)) (v := .slice (some ⟨vb, 0, none⟩) 8 8) rfl (by kernel_rfl) (by kernel_rfl) (by kernel_rfl) (fun c _ w h => HP.out c _ _ w (put_defers _ _ _) h) (Or.inl ⟨by rfl, ?_⟩) HB36.out ?_
  · as_aux_lemma =>
      intro w9 hSw
      go_simp
  simp only [Act.put, List.setIfInBounds_toArray, List.set_cons_zero, List.set_cons_succ]
  refine wpAnyH_take (i := 7) (oi := ({ dst := some 295, op := Op.indexAddr 53 (Operand.tmp 294) (Operand.const (Value.int IntKind.i64 1)), type := 0, pos := "ref.go:54", after := #[{ on := 6, ground := Ground.data }], guard := none } : Oper)) (v := .pointer (some ⟨vb, 1, none⟩)) rfl (by kernel_rfl) (by kernel_rfl) (by kernel_rfl) (fun c _ w h => HP.out c _ _ w (put_defers _ _ _) h) (Or.inl ⟨by rfl, ?_⟩) HB36.out ?_
  · as_aux_lemma =>
      intro w9 hSw
      go_simp
  simp only [Act.put, List.setIfInBounds_toArray, List.set_cons_zero, List.set_cons_succ]
  refine wpAnyH_take (i := 8) (oi := ({ dst := some 296, op := Op.load 52 (Operand.tmp 295), type := 52, pos := "ref.go:54", after := #[{ on := 7, ground := Ground.data }], guard := none } : Oper)) (v := W r.b) rfl (by kernel_rfl) (by kernel_rfl) (by kernel_rfl) (fun c _ w h => HP.out c _ _ w (put_defers _ _ _) h) (Or.inl ⟨by rfl, ?_⟩) HB36.out ?_
  · as_aux_lemma =>
      intro w9 hSw
      have hc : w9.cell? ⟨vb, 1, none⟩ = some (W r.b) := (hSw.cell 1).trans rfl
      go_simp
  simp only [Act.put, List.setIfInBounds_toArray, List.set_cons_zero, List.set_cons_succ]
  refine wpAnyH_take (i := 9) (oi := ({ dst := some 297, op := Op.move (Operand.tmp 14), type := 53, pos := "ref.go:54", after := #[], guard := none } : Oper)) (v := .slice (some ⟨vb, 0, none⟩) 8 8) rfl (by kernel_rfl) (by kernel_rfl) (by kernel_rfl) (fun c _ w h => HP.out c _ _ w (put_defers _ _ _) h) (Or.inl ⟨by rfl, ?_⟩) HB36.out ?_
  · as_aux_lemma =>
      intro w9 hSw
      go_simp
  simp only [Act.put, List.setIfInBounds_toArray, List.set_cons_zero, List.set_cons_succ]
  refine wpAnyH_take (i := 10) (oi := ({ dst := some 298, op := Op.indexAddr 53 (Operand.tmp 297) (Operand.const (Value.int IntKind.i64 2)), type := 0, pos := "ref.go:54", after := #[{ on := 9, ground := Ground.data }], guard := none } : Oper)) (v := .pointer (some ⟨vb, 2, none⟩)) rfl (by kernel_rfl) (by kernel_rfl) (by kernel_rfl) (fun c _ w h => HP.out c _ _ w (put_defers _ _ _) h) (Or.inl ⟨by rfl, ?_⟩) HB36.out ?_
  · as_aux_lemma =>
      intro w9 hSw
      go_simp
  simp only [Act.put, List.setIfInBounds_toArray, List.set_cons_zero, List.set_cons_succ]
  refine wpAnyH_take (i := 11) (oi := ({ dst := some 299, op := Op.load 52 (Operand.tmp 298), type := 52, pos := "ref.go:54", after := #[{ on := 10, ground := Ground.data }], guard := none } : Oper)) (v := W r.c) rfl (by kernel_rfl) (by kernel_rfl) (by kernel_rfl) (fun c _ w h => HP.out c _ _ w (put_defers _ _ _) h) (Or.inl ⟨by rfl, ?_⟩) HB36.out ?_
  · as_aux_lemma =>
      intro w9 hSw
      have hc : w9.cell? ⟨vb, 2, none⟩ = some (W r.c) := (hSw.cell 2).trans rfl
      go_simp
  simp only [Act.put, List.setIfInBounds_toArray, List.set_cons_zero, List.set_cons_succ]
  refine wpAnyH_take (i := 12) (oi := ({ dst := some 300, op := Op.move (Operand.tmp 14), type := 53, pos := "ref.go:54", after := #[], guard := none } : Oper)) (v := .slice (some ⟨vb, 0, none⟩) 8 8) rfl (by kernel_rfl) (by kernel_rfl) (by kernel_rfl) (fun c _ w h => HP.out c _ _ w (put_defers _ _ _) h) (Or.inl ⟨by rfl, ?_⟩) HB36.out ?_
  · as_aux_lemma =>
      intro w9 hSw
      go_simp
  simp only [Act.put, List.setIfInBounds_toArray, List.set_cons_zero, List.set_cons_succ]
  refine wpAnyH_take (i := 13) (oi := ({ dst := some 301, op := Op.indexAddr 53 (Operand.tmp 300) (Operand.const (Value.int IntKind.i64 3)), type := 0, pos := "ref.go:54", after := #[{ on := 12, ground := Ground.data }], guard := none } : Oper)) (v := .pointer (some ⟨vb, 3, none⟩)) rfl (by kernel_rfl) (by kernel_rfl) (by kernel_rfl) (fun c _ w h => HP.out c _ _ w (put_defers _ _ _) h) (Or.inl ⟨by rfl, ?_⟩) HB36.out ?_
  · as_aux_lemma =>
      intro w9 hSw
      go_simp
  simp only [Act.put, List.setIfInBounds_toArray, List.set_cons_zero, List.set_cons_succ]
  refine wpAnyH_take (i := 14) (oi := ({ dst := some 302, op := Op.load 52 (Operand.tmp 301), type := 52, pos := "ref.go:54", after := #[{ on := 13, ground := Ground.data }], guard := none } : Oper)) (v := W r.d) rfl (by kernel_rfl) (by kernel_rfl) (by kernel_rfl) (fun c _ w h => HP.out c _ _ w (put_defers _ _ _) h) (Or.inl ⟨by rfl, ?_⟩) HB36.out ?_
  · as_aux_lemma =>
      intro w9 hSw
      have hc : w9.cell? ⟨vb, 3, none⟩ = some (W r.d) := (hSw.cell 3).trans rfl
      go_simp
  simp only [Act.put, List.setIfInBounds_toArray, List.set_cons_zero, List.set_cons_succ]
  refine wpAnyH_take (i := 15) (oi := ({ dst := some 303, op := Op.move (Operand.tmp 18), type := 52, pos := "ref.go:54", after := #[], guard := none } : Oper)) (v := W X1) rfl (by kernel_rfl) (by kernel_rfl) (by kernel_rfl) (fun c _ w h => HP.out c _ _ w (put_defers _ _ _) h) (Or.inl ⟨by rfl, ?_⟩) HB36.out ?_
  · as_aux_lemma =>
      intro w9 hSw
      go_simp
  simp only [Act.put, List.setIfInBounds_toArray, List.set_cons_zero, List.set_cons_succ]
  refine wpAnyH_take (i := 16) (oi := ({ dst := some 304, op := Op.binOp BinOp.add 52 (Operand.tmp 302) (Operand.tmp 303) 52, type := 52, pos := "ref.go:54", after := #[{ on := 14, ground := Ground.data }, { on := 15, ground := Ground.data }], guard := none } : Oper)) (v := W (r.d + X1)) rfl (by kernel_rfl) (by kernel_rfl) (by kernel_rfl) (fun c _ w h => HP.out c _ _ w (put_defers _ _ _) h) (Or.inl ⟨by rfl, ?_⟩) HB36.out ?_
  · as_aux_lemma =>
      intro w9 hSw
      go_simp
  simp only [Act.put, List.setIfInBounds_toArray, List.set_cons_zero, List.set_cons_succ]
  refine wpAnyH_take (i := 17) (oi := ({ dst := some 305, op := Op.move (Operand.tmp 14), type := 53, pos := "ref.go:54", after := #[], guard := none } : Oper)) (v := .slice (some ⟨vb, 0, none⟩) 8 8) rfl (by kernel_rfl) (by kernel_rfl) (by kernel_rfl) (fun c _ w h => HP.out c _ _ w (put_defers _ _ _) h) (Or.inl ⟨by rfl, ?_⟩) HB36.out ?_
  · as_aux_lemma =>
      intro w9 hSw
      go_simp
  simp only [Act.put, List.setIfInBounds_toArray, List.set_cons_zero, List.set_cons_succ]
  refine wpAnyH_take (i := 18) (oi := ({ dst := some 306, op := Op.indexAddr 53 (Operand.tmp 305) (Operand.const (Value.int IntKind.i64 4)), type := 0, pos := "ref.go:54", after := #[{ on := 17, ground := Ground.data }], guard := none } : Oper)) (v := .pointer (some ⟨vb, 4, none⟩)) rfl (by kernel_rfl) (by kernel_rfl) (by kernel_rfl) (fun c _ w h => HP.out c _ _ w (put_defers _ _ _) h) (Or.inl ⟨by rfl, ?_⟩) HB36.out ?_
  · as_aux_lemma =>
      intro w9 hSw
      go_simp
  simp only [Act.put, List.setIfInBounds_toArray, List.set_cons_zero, List.set_cons_succ]
  refine wpAnyH_take (i := 19) (oi := ({ dst := some 307, op := Op.load 52 (Operand.tmp 306), type := 52, pos := "ref.go:54", after := #[{ on := 18, ground := Ground.data }], guard := none } : Oper)) (v := W r.e) rfl (by kernel_rfl) (by kernel_rfl) (by kernel_rfl) (fun c _ w h => HP.out c _ _ w (put_defers _ _ _) h) (Or.inl ⟨by rfl, ?_⟩) HB36.out ?_
  · as_aux_lemma =>
      intro w9 hSw
      have hc : w9.cell? ⟨vb, 4, none⟩ = some (W r.e) := (hSw.cell 4).trans rfl
      go_simp
  simp only [Act.put, List.setIfInBounds_toArray, List.set_cons_zero, List.set_cons_succ]
  refine wpAnyH_take (i := 20) (oi := ({ dst := some 308, op := Op.move (Operand.tmp 14), type := 53, pos := "ref.go:54", after := #[], guard := none } : Oper)) (v := .slice (some ⟨vb, 0, none⟩) 8 8) rfl (by kernel_rfl) (by kernel_rfl) (by kernel_rfl) (fun c _ w h => HP.out c _ _ w (put_defers _ _ _) h) (Or.inl ⟨by rfl, ?_⟩) HB36.out ?_
  · as_aux_lemma =>
      intro w9 hSw
      go_simp
  simp only [Act.put, List.setIfInBounds_toArray, List.set_cons_zero, List.set_cons_succ]
  refine wpAnyH_take (i := 21) (oi := ({ dst := some 309, op := Op.indexAddr 53 (Operand.tmp 308) (Operand.const (Value.int IntKind.i64 5)), type := 0, pos := "ref.go:54", after := #[{ on := 20, ground := Ground.data }], guard := none } : Oper)) (v := .pointer (some ⟨vb, 5, none⟩)) rfl (by kernel_rfl) (by kernel_rfl) (by kernel_rfl) (fun c _ w h => HP.out c _ _ w (put_defers _ _ _) h) (Or.inl ⟨by rfl, ?_⟩) HB36.out ?_
  · as_aux_lemma =>
      intro w9 hSw
      go_simp
  simp only [Act.put, List.setIfInBounds_toArray, List.set_cons_zero, List.set_cons_succ]
  refine wpAnyH_take (i := 22) (oi := ({ dst := some 310, op := Op.load 52 (Operand.tmp 309), type := 52, pos := "ref.go:54", after := #[{ on := 21, ground := Ground.data }], guard := none } : Oper)) (v := W r.f) rfl (by kernel_rfl) (by kernel_rfl) (by kernel_rfl) (fun c _ w h => HP.out c _ _ w (put_defers _ _ _) h) (Or.inl ⟨by rfl, ?_⟩) HB36.out ?_
  · as_aux_lemma =>
      intro w9 hSw
      have hc : w9.cell? ⟨vb, 5, none⟩ = some (W r.f) := (hSw.cell 5).trans rfl
      go_simp
  simp only [Act.put, List.setIfInBounds_toArray, List.set_cons_zero, List.set_cons_succ]
  refine wpAnyH_take (i := 23) (oi := ({ dst := some 311, op := Op.move (Operand.tmp 14), type := 53, pos := "ref.go:54", after := #[], guard := none } : Oper)) (v := .slice (some ⟨vb, 0, none⟩) 8 8) rfl (by kernel_rfl) (by kernel_rfl) (by kernel_rfl) (fun c _ w h => HP.out c _ _ w (put_defers _ _ _) h) (Or.inl ⟨by rfl, ?_⟩) HB36.out ?_
  · as_aux_lemma =>
      intro w9 hSw
      go_simp
  simp only [Act.put, List.setIfInBounds_toArray, List.set_cons_zero, List.set_cons_succ]
  refine wpAnyH_take (i := 24) (oi := ({ dst := some 312, op := Op.indexAddr 53 (Operand.tmp 311) (Operand.const (Value.int IntKind.i64 6)), type := 0, pos := "ref.go:54", after := #[{ on := 23, ground := Ground.data }], guard := none } : Oper)) (v := .pointer (some ⟨vb, 6, none⟩)) rfl (by kernel_rfl) (by kernel_rfl) (by kernel_rfl) (fun c _ w h => HP.out c _ _ w (put_defers _ _ _) h) (Or.inl ⟨by rfl, ?_⟩) HB36.out ?_
  · as_aux_lemma =>
      intro w9 hSw
      go_simp
  simp only [Act.put, List.setIfInBounds_toArray, List.set_cons_zero, List.set_cons_succ]
  refine wpAnyH_take (i := 25) (oi := ({ dst := some 313, op := Op.load 52 (Operand.tmp 312), type := 52, pos := "ref.go:54", after := #[{ on := 24, ground := Ground.data }], guard := none } : Oper)) (v := W r.g) rfl (by kernel_rfl) (by kernel_rfl) (by kernel_rfl) (fun c _ w h => HP.out c _ _ w (put_defers _ _ _) h) (Or.inl ⟨by rfl, ?_⟩) HB36.out ?_
  · as_aux_lemma =>
      intro w9 hSw
      have hc : w9.cell? ⟨vb, 6, none⟩ = some (W r.g) := (hSw.cell 6).trans rfl
      go_simp
  simp only [Act.put, List.setIfInBounds_toArray, List.set_cons_zero, List.set_cons_succ]
  have HM := Lib.hid ((HV.out.more (.cells #[W ((X1 + X2)), W (r.a), W (r.b), W (r.c), W ((r.d + X1)), W (r.e), W (r.f), W (r.g)] 52)).drew)
  have HN := Lib.hid ((Blk.fresh wr 52 #[W ((X1 + X2)), W (r.a), W (r.b), W (r.c), W ((r.d + X1)), W (r.e), W (r.f), W (r.g)]).drew)
  refine wpAnyH_one (i := 26) (o := ({ dst := some 314, op := Op.buildSlice 53 8 #[(0, Operand.tmp 290), (1, Operand.tmp 293), (2, Operand.tmp 296), (3, Operand.tmp 299), (4, Operand.tmp 304), (5, Operand.tmp 307), (6, Operand.tmp 310), (7, Operand.tmp 313)], type := 53, pos := "ref.go:54", after := #[{ on := 2, ground := Ground.data }, { on := 5, ground := Ground.data }, { on := 8, ground := Ground.data }, { on := 11, ground := Ground.data }, { on := 16, ground := Ground.data }, { on := 19, ground := Ground.data }, { on := 22, ground := Ground.data }, { on := 25, ground := Ground.data }], guard := none } : Oper)) (by kernel_rfl) rfl rfl ?_
  refine wp_eight (.tmp 290) (.tmp 293) (.tmp 296) (.tmp 299) (.tmp 304) (.tmp 307) (.tmp 310) (.tmp 313) rfl [(X1 + X2), r.a, r.b, r.c, (r.d + X1), r.e, r.f, r.g] rfl (by kernel_rfl) (by kernel_rfl) (by kernel_rfl) (by kernel_rfl) (by kernel_rfl) (by kernel_rfl) (by kernel_rfl) (by kernel_rfl) ⟨HM.out, ?_⟩
  refine wpAnyH_take (i := 27) (oi := ({ dst := some 14, op := Op.assign (Operand.tmp 314), type := 53, pos := "ref.go:54", after := #[{ on := 26, ground := Ground.data }, { on := 0, ground := Ground.phase }, { on := 1, ground := Ground.phase }, { on := 2, ground := Ground.phase }, { on := 3, ground := Ground.phase }, { on := 4, ground := Ground.phase }, { on := 5, ground := Ground.phase }, { on := 6, ground := Ground.phase }, { on := 7, ground := Ground.phase }, { on := 8, ground := Ground.phase }, { on := 9, ground := Ground.phase }, { on := 10, ground := Ground.phase }, { on := 11, ground := Ground.phase }, { on := 12, ground := Ground.phase }, { on := 13, ground := Ground.phase }, { on := 14, ground := Ground.phase }, { on := 15, ground := Ground.phase }, { on := 16, ground := Ground.phase }, { on := 17, ground := Ground.phase }, { on := 18, ground := Ground.phase }, { on := 19, ground := Ground.phase }, { on := 20, ground := Ground.phase }, { on := 21, ground := Ground.phase }, { on := 22, ground := Ground.phase }, { on := 23, ground := Ground.phase }, { on := 24, ground := Ground.phase }, { on := 25, ground := Ground.phase }, { on := 26, ground := Ground.phase }], guard := none } : Oper)) (v := .slice (some ⟨wr.heap.size, 0, none⟩) 8 8) rfl (by kernel_rfl) (by kernel_rfl) (by kernel_rfl) (fun c _ w h => HP.out c _ _ w (put_defers _ _ _) h) (Or.inl ⟨by rfl, ?_⟩) HM.out ?_
  · as_aux_lemma =>
      intro w9 hSw
      go_simp
  simp only [Act.put, List.setIfInBounds_toArray, List.set_cons_zero, List.set_cons_succ]
  refine wpAnyH_done (by kernel_rfl) ?_ _
  refine HQ.out _ _ _ _ _ _ _ _ _ _ _ _ _ _ _ _ _ _ _ _ _ _ _ _ _ _ _ wr.heap.size _ ?_ (Nat.le_refl _) HN.out
  exact ((Below.refl _ wr).alloc (Nat.le_refl _) _).drew

end Go.Proofs.YtcbfnbmkogeehaaDoor
