/- SketchMakes: the law's walk. -/
import Derived.Test.YtfeoocgmbikocaaGreatU0
import Derived.Test.YtfeoocgmbikocaaGreatS0a
import Derived.Test.YtfeoocgmbikocaaGreatR0
namespace Go.Proofs.YtfeoocgmbikocaaGreat
open Go.RowKit

set_option maxRecDepth 100000 in
theorem eql_sv (s : St) (w : World) : (binOp .eql 57 (sv s) (sv s)).run Tryz.prog w = .ok (.bool true) w := by
  rw [sv_def, run_eql_struct, run_equalIn_agg w 9999 57 _ _ rfl rfl]
  simp [go_sem]
set_option maxRecDepth 100000 in
theorem guard_sv (o1 o2 : Operand) (s s2 : St) (w : World) : (eqGuard .eql 57 o1 o2 (sv s) (sv s2)).run Tryz.prog w = .ok () w := by
  have h : Tryz.prog.eqGuardType Tryz.prog.depth 57 = false := by decide +kernel
  unfold sv
  exact run_eqGuard_agg w _ _ _ _ _ _ h
theorem build3 (x y z p q : UInt32) (w : World) : (Instr.build 57 #[(0, .int .i64 3), (1, V x), (2, V y), (3, V z), (4, V p), (5, V q)]).run Tryz.prog w = .ok (sv ⟨3, x, y, z, p, q⟩) w := by kernel_rfl
theorem build1 (k : Int) (x : UInt32) (w : World) : (Instr.build 57 #[(0, .int .i64 k), (1, V x)]).run Tryz.prog w = .ok (sv ⟨k, x, 0, 0, 0, 0⟩) w := by kernel_rfl
theorem wp_build_of {P : Program} {o : Oper} {a : Act} {w : World} {K : Act → World → Prop} {Q : Exit → Act → World → Prop} {t : TypeId} {ps : Array (Nat × Operand)} (ho : o.op = .build t ps) {v : Value}
    (h : (Instr.build t (ps.map fun p => (p.1, a.eval p.2))).run P w = .ok v w) (hK : K (a.put o.dst v) w) : o.wp P a w K Q := by
  unfold Oper.wp execOp
  rw [ho]
  simp only [Sem.run_bind, h, Result.andThen_ok, Sem.run_pure]
  exact hK
attribute [local irreducible] V
attribute [local irreducible] sv
attribute [local irreducible] wpList in
set_option maxRecDepth 100000 in
set_option maxHeartbeats 4000000 in
theorem smakes_walk (w : World) (x y z p q : UInt32) : Calls Tryz.prog 5 #[.agg #[V x, V y, V z], V p, V q] w fun e w' => e = .returned (.bool true) ∧ Below w.heap.size w w' := by
  have HB0 : Hid (Below w.heap.size w (w.alloc (.cells #[V x, V y, V z] 60))) := (Below.refl _ w).alloc (Nat.le_refl _) _
  have HK0 : Hid (Blk (w.alloc (.cells #[V x, V y, V z] 60)) w.heap.size 60 #[V x, V y, V z]) := Blk.fresh _ _ _
  go_enter Tryz.func5, Tryz.ntmps5
  go_wp2
  have HB1 := Lib.hid (HB0.out.trans (⟨rfl, rfl, rfl, Nat.le_refl _, fun _ _ => rfl⟩ : Below w.heap.size (w.alloc (.cells #[V x, V y, V z] 60)) (w.alloc (.cells #[V x, V y, V z] 60)).drew))
  have HSW : Hid (∀ W, Up (w.alloc (.cells #[V x, V y, V z] 60)).drew W → W.cell? ⟨w.heap.size, 0, none⟩ = some (V x) ∧ W.cell? ⟨w.heap.size, 1, none⟩ = some (V y) ∧ W.cell? ⟨w.heap.size, 2, none⟩ = some (V z)) := fun W hW => by
    have hk : Blk W w.heap.size 60 #[V x, V y, V z] := Blk.kept (w := (w.alloc (.cells #[V x, V y, V z] 60)).drew) HK0.out hW HK0.out.lt
    exact ⟨hk.cell 0, hk.cell 1, hk.cell 2⟩
  refine wp_region_up (by kernel_rfl) [[], [7], [3, 8], [1, 8], [2, 8], [9, 10, 11, 8], [3, 8], [13, 8], [3, 8], [15, 8], [3, 8], [17, 8], [1, 8], [2, 8], [14, 16, 18, 19, 20, 8], [12, 21, 8], [8, 22], [23], [3, 24], [25, 24], [26, 24], [3, 24], [28, 24], [29, 24], [27, 30, 24], [24, 31], [32], [3, 33], [34, 33], [35, 33], [3, 33], [37, 33], [38, 33], [36, 39, 33], [33, 40], [41], [3, 42], [43, 42], [44, 42], [3, 42], [46, 42], [47, 42], [45, 48, 42], [42, 49], [50]] [(7, Sp.is (.bool true)), (8, Sp.is (.bool true)), (9, Sp.is (.agg #[V x, V y, V z])), (10, Sp.is (V p)), (11, Sp.is (V q)), (12, Sp.is (sv ⟨3, x, y, z, p, q⟩)), (13, Sp.is (.pointer (some ⟨w.heap.size, 0, none⟩))), (14, Sp.is (V x)), (15, Sp.is (.pointer (some ⟨w.heap.size, 1, none⟩))), (16, Sp.is (V y)), (17, Sp.is (.pointer (some ⟨w.heap.size, 2, none⟩))), (18, Sp.is (V z)), (19, Sp.is (V p)), (20, Sp.is (V q)), (21, Sp.is (sv ⟨3, x, y, z, p, q⟩)), (22, Sp.is (.bool true)), (23, Sp.is (.bool true)), (24, Sp.is (.bool true)), (25, Sp.is (.pointer (some ⟨w.heap.size, 0, none⟩))), (26, Sp.is (V x)), (27, Sp.is (sv ⟨4, x, 0, 0, 0, 0⟩)), (28, Sp.is (.pointer (some ⟨w.heap.size, 0, none⟩))), (29, Sp.is (V x)), (30, Sp.is (sv ⟨4, x, 0, 0, 0, 0⟩)), (31, Sp.is (.bool true)), (32, Sp.is (.bool true)), (33, Sp.is (.bool true)), (34, Sp.is (.pointer (some ⟨w.heap.size, 1, none⟩))), (35, Sp.is (V y)), (36, Sp.is (sv ⟨1, y, 0, 0, 0, 0⟩)), (37, Sp.is (.pointer (some ⟨w.heap.size, 1, none⟩))), (38, Sp.is (V y)), (39, Sp.is (sv ⟨1, y, 0, 0, 0, 0⟩)), (40, Sp.is (.bool true)), (41, Sp.is (.bool true)), (42, Sp.is (.bool true)), (43, Sp.is (.pointer (some ⟨w.heap.size, 2, none⟩))), (44, Sp.is (V z)), (45, Sp.is (sv ⟨2, z, 0, 0, 0, 0⟩)), (46, Sp.is (.pointer (some ⟨w.heap.size, 2, none⟩))), (47, Sp.is (V z)), (48, Sp.is (sv ⟨2, z, 0, 0, 0, 0⟩)), (49, Sp.is (.bool true)), (50, Sp.is (.bool true)), (6, Sp.is (.bool true))] 51 rfl (by kernel_rfl) (by kernel_rfl) (by kernel_rfl) ?_ ?_
  · refine ⟨?_, ?_, ?_, ?_, ?_, ?_, ?_, ?_, ?_, ?_, ?_, ?_, ?_, ?_, ?_, ?_, ?_, ?_, ?_, ?_, ?_, ?_, ?_, ?_, ?_, ?_, ?_, ?_, ?_, ?_, ?_, ?_, ?_, ?_, ?_, ?_, ?_, ?_, ?_, ?_, ?_, ?_, ?_, ?_, ?_, trivial⟩
    · as_aux_lemma =>
      refine UpOb.plain rfl fun a W hR hl K hK => ?_
      replace hK : ∀ v W2, Up W W2 → v = (.bool true) → K (a.put (some 7) v) W2 := fun v W2 h1 h2 => hK v W2 h1 (fun d hd => by cases hd; exact h2)
      clear hl
      go_simp
      refine (awake11_walk W).mono ?_
      rintro e w4 ⟨rfl, hb4⟩
      exact hK _ w4 hb4 rfl
    · as_aux_lemma =>
      refine UpOb.plain rfl fun a W hR hl K hK => ?_
      have h7 : a.tmps.getD 7 undef = (.bool true) := hl 7 (by decide)
      replace hK : ∀ v W2, Up W W2 → v = (.bool true) → K (a.put (some 8) v) W2 := fun v W2 h1 h2 => hK v W2 h1 (fun d hd => by cases hd; exact h2)
      clear hl
      simp only [Array.getD_eq_getD_getElem?] at h7
      go_simp
      exact hK _ W (Up.refl W) rfl
    · as_aux_lemma =>
      refine UpOb.guarded (d := 8) rfl rfl (fun a W hl => hl 8 (by decide)) fun a W hR hl K hK => ?_
      have h3 : a.tmps.getD 3 undef = (.pointer (some ⟨w.heap.size, 0, none⟩)) := hl 3 (by decide)
      have h8 : a.tmps.getD 8 undef = (.bool true) := hl 8 (by decide)
      replace hK : ∀ v W2, Up W W2 → v = (.agg #[V x, V y, V z]) → K (a.put (some 9) v) W2 := fun v W2 h1 h2 => hK v W2 h1 (fun d hd => by cases hd; exact h2)
      clear hl
      obtain ⟨s0, s1, s2⟩ := HSW.out W hR
      simp only [Array.getD_eq_getD_getElem?] at h3 h8
      go_simp
      exact hK _ W (Up.refl W) rfl
    · as_aux_lemma =>
      refine UpOb.guarded (d := 8) rfl rfl (fun a W hl => hl 8 (by decide)) fun a W hR hl K hK => ?_
      have h1 : a.tmps.getD 1 undef = (V p) := hl 1 (by decide)
      have h8 : a.tmps.getD 8 undef = (.bool true) := hl 8 (by decide)
      replace hK : ∀ v W2, Up W W2 → v = (V p) → K (a.put (some 10) v) W2 := fun v W2 h1 h2 => hK v W2 h1 (fun d hd => by cases hd; exact h2)
      clear hl
      simp only [Array.getD_eq_getD_getElem?] at h1 h8
      go_simp
      exact hK _ W (Up.refl W) rfl
    · as_aux_lemma =>
      refine UpOb.guarded (d := 8) rfl rfl (fun a W hl => hl 8 (by decide)) fun a W hR hl K hK => ?_
      have h2 : a.tmps.getD 2 undef = (V q) := hl 2 (by decide)
      have h8 : a.tmps.getD 8 undef = (.bool true) := hl 8 (by decide)
      replace hK : ∀ v W2, Up W W2 → v = (V q) → K (a.put (some 11) v) W2 := fun v W2 h1 h2 => hK v W2 h1 (fun d hd => by cases hd; exact h2)
      clear hl
      simp only [Array.getD_eq_getD_getElem?] at h2 h8
      go_simp
      exact hK _ W (Up.refl W) rfl
    · as_aux_lemma =>
      refine UpOb.guarded (d := 8) rfl rfl (fun a W hl => hl 8 (by decide)) fun a W hR hl K hK => ?_
      have h9 : a.tmps.getD 9 undef = (.agg #[V x, V y, V z]) := hl 9 (by decide)
      have h10 : a.tmps.getD 10 undef = (V p) := hl 10 (by decide)
      have h11 : a.tmps.getD 11 undef = (V q) := hl 11 (by decide)
      have h8 : a.tmps.getD 8 undef = (.bool true) := hl 8 (by decide)
      replace hK : ∀ v W2, Up W W2 → v = (sv ⟨3, x, y, z, p, q⟩) → K (a.put (some 12) v) W2 := fun v W2 h1 h2 => hK v W2 h1 (fun d hd => by cases hd; exact h2)
      clear hl
      simp only [Array.getD_eq_getD_getElem?] at h9 h10 h11 h8
      go_simp
      refine (link_walk W x y z p q).mono ?_
      rintro e w4 ⟨rfl, hb4⟩
      exact hK _ w4 hb4 rfl
    · as_aux_lemma =>
      refine UpOb.guarded (d := 8) rfl rfl (fun a W hl => hl 8 (by decide)) fun a W hR hl K hK => ?_
      have h3 : a.tmps.getD 3 undef = (.pointer (some ⟨w.heap.size, 0, none⟩)) := hl 3 (by decide)
      have h8 : a.tmps.getD 8 undef = (.bool true) := hl 8 (by decide)
      replace hK : ∀ v W2, Up W W2 → v = (.pointer (some ⟨w.heap.size, 0, none⟩)) → K (a.put (some 13) v) W2 := fun v W2 h1 h2 => hK v W2 h1 (fun d hd => by cases hd; exact h2)
      clear hl
      simp only [Array.getD_eq_getD_getElem?] at h3 h8
      go_simp
      exact hK _ W (Up.refl W) rfl
    · as_aux_lemma =>
      refine UpOb.guarded (d := 8) rfl rfl (fun a W hl => hl 8 (by decide)) fun a W hR hl K hK => ?_
      have h13 : a.tmps.getD 13 undef = (.pointer (some ⟨w.heap.size, 0, none⟩)) := hl 13 (by decide)
      have h8 : a.tmps.getD 8 undef = (.bool true) := hl 8 (by decide)
      replace hK : ∀ v W2, Up W W2 → v = (V x) → K (a.put (some 14) v) W2 := fun v W2 h1 h2 => hK v W2 h1 (fun d hd => by cases hd; exact h2)
      clear hl
      obtain ⟨s0, s1, s2⟩ := HSW.out W hR
      simp only [Array.getD_eq_getD_getElem?] at h13 h8
      go_simp
      exact hK _ W (Up.refl W) rfl
    · as_aux_lemma =>
      refine UpOb.guarded (d := 8) rfl rfl (fun a W hl => hl 8 (by decide)) fun a W hR hl K hK => ?_
      have h3 : a.tmps.getD 3 undef = (.pointer (some ⟨w.heap.size, 0, none⟩)) := hl 3 (by decide)
      have h8 : a.tmps.getD 8 undef = (.bool true) := hl 8 (by decide)
      replace hK : ∀ v W2, Up W W2 → v = (.pointer (some ⟨w.heap.size, 1, none⟩)) → K (a.put (some 15) v) W2 := fun v W2 h1 h2 => hK v W2 h1 (fun d hd => by cases hd; exact h2)
      clear hl
      simp only [Array.getD_eq_getD_getElem?] at h3 h8
      go_simp
      exact hK _ W (Up.refl W) rfl
    · as_aux_lemma =>
      refine UpOb.guarded (d := 8) rfl rfl (fun a W hl => hl 8 (by decide)) fun a W hR hl K hK => ?_
      have h15 : a.tmps.getD 15 undef = (.pointer (some ⟨w.heap.size, 1, none⟩)) := hl 15 (by decide)
      have h8 : a.tmps.getD 8 undef = (.bool true) := hl 8 (by decide)
      replace hK : ∀ v W2, Up W W2 → v = (V y) → K (a.put (some 16) v) W2 := fun v W2 h1 h2 => hK v W2 h1 (fun d hd => by cases hd; exact h2)
      clear hl
      obtain ⟨s0, s1, s2⟩ := HSW.out W hR
      simp only [Array.getD_eq_getD_getElem?] at h15 h8
      go_simp
      exact hK _ W (Up.refl W) rfl
    · as_aux_lemma =>
      refine UpOb.guarded (d := 8) rfl rfl (fun a W hl => hl 8 (by decide)) fun a W hR hl K hK => ?_
      have h3 : a.tmps.getD 3 undef = (.pointer (some ⟨w.heap.size, 0, none⟩)) := hl 3 (by decide)
      have h8 : a.tmps.getD 8 undef = (.bool true) := hl 8 (by decide)
      replace hK : ∀ v W2, Up W W2 → v = (.pointer (some ⟨w.heap.size, 2, none⟩)) → K (a.put (some 17) v) W2 := fun v W2 h1 h2 => hK v W2 h1 (fun d hd => by cases hd; exact h2)
      clear hl
      simp only [Array.getD_eq_getD_getElem?] at h3 h8
      go_simp
      exact hK _ W (Up.refl W) rfl
    · as_aux_lemma =>
      refine UpOb.guarded (d := 8) rfl rfl (fun a W hl => hl 8 (by decide)) fun a W hR hl K hK => ?_
      have h17 : a.tmps.getD 17 undef = (.pointer (some ⟨w.heap.size, 2, none⟩)) := hl 17 (by decide)
      have h8 : a.tmps.getD 8 undef = (.bool true) := hl 8 (by decide)
      replace hK : ∀ v W2, Up W W2 → v = (V z) → K (a.put (some 18) v) W2 := fun v W2 h1 h2 => hK v W2 h1 (fun d hd => by cases hd; exact h2)
      clear hl
      obtain ⟨s0, s1, s2⟩ := HSW.out W hR
      simp only [Array.getD_eq_getD_getElem?] at h17 h8
      go_simp
      exact hK _ W (Up.refl W) rfl
    · as_aux_lemma =>
      refine UpOb.guarded (d := 8) rfl rfl (fun a W hl => hl 8 (by decide)) fun a W hR hl K hK => ?_
      have h1 : a.tmps.getD 1 undef = (V p) := hl 1 (by decide)
      have h8 : a.tmps.getD 8 undef = (.bool true) := hl 8 (by decide)
      replace hK : ∀ v W2, Up W W2 → v = (V p) → K (a.put (some 19) v) W2 := fun v W2 h1 h2 => hK v W2 h1 (fun d hd => by cases hd; exact h2)
      clear hl
      simp only [Array.getD_eq_getD_getElem?] at h1 h8
      go_simp
      exact hK _ W (Up.refl W) rfl
    · as_aux_lemma =>
      refine UpOb.guarded (d := 8) rfl rfl (fun a W hl => hl 8 (by decide)) fun a W hR hl K hK => ?_
      have h2 : a.tmps.getD 2 undef = (V q) := hl 2 (by decide)
      have h8 : a.tmps.getD 8 undef = (.bool true) := hl 8 (by decide)
      replace hK : ∀ v W2, Up W W2 → v = (V q) → K (a.put (some 20) v) W2 := fun v W2 h1 h2 => hK v W2 h1 (fun d hd => by cases hd; exact h2)
      clear hl
      simp only [Array.getD_eq_getD_getElem?] at h2 h8
      go_simp
      exact hK _ W (Up.refl W) rfl
    · as_aux_lemma =>
      refine UpOb.guarded (d := 8) rfl rfl (fun a W hl => hl 8 (by decide)) fun a W hR hl K hK => ?_
      have h14 : a.tmps.getD 14 undef = (V x) := hl 14 (by decide)
      have h16 : a.tmps.getD 16 undef = (V y) := hl 16 (by decide)
      have h18 : a.tmps.getD 18 undef = (V z) := hl 18 (by decide)
      have h19 : a.tmps.getD 19 undef = (V p) := hl 19 (by decide)
      have h20 : a.tmps.getD 20 undef = (V q) := hl 20 (by decide)
      have h8 : a.tmps.getD 8 undef = (.bool true) := hl 8 (by decide)
      replace hK : ∀ v W2, Up W W2 → v = (sv ⟨3, x, y, z, p, q⟩) → K (a.put (some 21) v) W2 := fun v W2 h1 h2 => hK v W2 h1 (fun d hd => by cases hd; exact h2)
      clear hl
      simp only [Array.getD_eq_getD_getElem?] at h14 h16 h18 h19 h20 h8
      refine wp_build_of rfl (v := sv ⟨3, x, y, z, p, q⟩) ?_ (hK _ W (Up.refl W) rfl)
      refine Eq.trans ?_ (build3 x y z p q W)
      simp only [Act.eval, h14, h16, h18, h19, h20, List.map_toArray, List.map_cons, List.map_nil, Array.getD_eq_getD_getElem?]
    · as_aux_lemma =>
      refine UpOb.guarded (d := 8) rfl rfl (fun a W hl => hl 8 (by decide)) fun a W hR hl K hK => ?_
      have h12 : a.tmps.getD 12 undef = (sv ⟨3, x, y, z, p, q⟩) := hl 12 (by decide)
      have h21 : a.tmps.getD 21 undef = (sv ⟨3, x, y, z, p, q⟩) := hl 21 (by decide)
      have h8 : a.tmps.getD 8 undef = (.bool true) := hl 8 (by decide)
      replace hK : ∀ v W2, Up W W2 → v = (.bool true) → K (a.put (some 22) v) W2 := fun v W2 h1 h2 => hK v W2 h1 (fun d hd => by cases hd; exact h2)
      clear hl
      simp only [Array.getD_eq_getD_getElem?] at h12 h21 h8
      have hg := guard_sv
      have he := eql_sv
      go_simp
      exact hK _ W (Up.refl W) rfl
    · as_aux_lemma =>
      refine UpOb.plain rfl fun a W hR hl K hK => ?_
      have h8 : a.tmps.getD 8 undef = (.bool true) := hl 8 (by decide)
      have h22 : a.tmps.getD 22 undef = (.bool true) := hl 22 (by decide)
      replace hK : ∀ v W2, Up W W2 → v = (.bool true) → K (a.put (some 23) v) W2 := fun v W2 h1 h2 => hK v W2 h1 (fun d hd => by cases hd; exact h2)
      clear hl
      simp only [Array.getD_eq_getD_getElem?] at h8 h22
      go_simp
      exact hK _ W (Up.refl W) rfl
    · as_aux_lemma =>
      refine UpOb.plain rfl fun a W hR hl K hK => ?_
      have h23 : a.tmps.getD 23 undef = (.bool true) := hl 23 (by decide)
      replace hK : ∀ v W2, Up W W2 → v = (.bool true) → K (a.put (some 24) v) W2 := fun v W2 h1 h2 => hK v W2 h1 (fun d hd => by cases hd; exact h2)
      clear hl
      simp only [Array.getD_eq_getD_getElem?] at h23
      go_simp
      exact hK _ W (Up.refl W) rfl
    · as_aux_lemma =>
      refine UpOb.guarded (d := 24) rfl rfl (fun a W hl => hl 24 (by decide)) fun a W hR hl K hK => ?_
      have h3 : a.tmps.getD 3 undef = (.pointer (some ⟨w.heap.size, 0, none⟩)) := hl 3 (by decide)
      have h24 : a.tmps.getD 24 undef = (.bool true) := hl 24 (by decide)
      replace hK : ∀ v W2, Up W W2 → v = (.pointer (some ⟨w.heap.size, 0, none⟩)) → K (a.put (some 25) v) W2 := fun v W2 h1 h2 => hK v W2 h1 (fun d hd => by cases hd; exact h2)
      clear hl
      simp only [Array.getD_eq_getD_getElem?] at h3 h24
      go_simp
      exact hK _ W (Up.refl W) rfl
    · as_aux_lemma =>
      refine UpOb.guarded (d := 24) rfl rfl (fun a W hl => hl 24 (by decide)) fun a W hR hl K hK => ?_
      have h25 : a.tmps.getD 25 undef = (.pointer (some ⟨w.heap.size, 0, none⟩)) := hl 25 (by decide)
      have h24 : a.tmps.getD 24 undef = (.bool true) := hl 24 (by decide)
      replace hK : ∀ v W2, Up W W2 → v = (V x) → K (a.put (some 26) v) W2 := fun v W2 h1 h2 => hK v W2 h1 (fun d hd => by cases hd; exact h2)
      clear hl
      obtain ⟨s0, s1, s2⟩ := HSW.out W hR
      simp only [Array.getD_eq_getD_getElem?] at h25 h24
      go_simp
      exact hK _ W (Up.refl W) rfl
    · as_aux_lemma =>
      refine UpOb.guarded (d := 24) rfl rfl (fun a W hl => hl 24 (by decide)) fun a W hR hl K hK => ?_
      have h26 : a.tmps.getD 26 undef = (V x) := hl 26 (by decide)
      have h24 : a.tmps.getD 24 undef = (.bool true) := hl 24 (by decide)
      replace hK : ∀ v W2, Up W W2 → v = (sv ⟨4, x, 0, 0, 0, 0⟩) → K (a.put (some 27) v) W2 := fun v W2 h1 h2 => hK v W2 h1 (fun d hd => by cases hd; exact h2)
      clear hl
      simp only [Array.getD_eq_getD_getElem?] at h26 h24
      go_simp
      refine (nolink_walk W x).mono ?_
      rintro e w4 ⟨rfl, hb4⟩
      exact hK _ w4 hb4 rfl
    · as_aux_lemma =>
      refine UpOb.guarded (d := 24) rfl rfl (fun a W hl => hl 24 (by decide)) fun a W hR hl K hK => ?_
      have h3 : a.tmps.getD 3 undef = (.pointer (some ⟨w.heap.size, 0, none⟩)) := hl 3 (by decide)
      have h24 : a.tmps.getD 24 undef = (.bool true) := hl 24 (by decide)
      replace hK : ∀ v W2, Up W W2 → v = (.pointer (some ⟨w.heap.size, 0, none⟩)) → K (a.put (some 28) v) W2 := fun v W2 h1 h2 => hK v W2 h1 (fun d hd => by cases hd; exact h2)
      clear hl
      simp only [Array.getD_eq_getD_getElem?] at h3 h24
      go_simp
      exact hK _ W (Up.refl W) rfl
    · as_aux_lemma =>
      refine UpOb.guarded (d := 24) rfl rfl (fun a W hl => hl 24 (by decide)) fun a W hR hl K hK => ?_
      have h28 : a.tmps.getD 28 undef = (.pointer (some ⟨w.heap.size, 0, none⟩)) := hl 28 (by decide)
      have h24 : a.tmps.getD 24 undef = (.bool true) := hl 24 (by decide)
      replace hK : ∀ v W2, Up W W2 → v = (V x) → K (a.put (some 29) v) W2 := fun v W2 h1 h2 => hK v W2 h1 (fun d hd => by cases hd; exact h2)
      clear hl
      obtain ⟨s0, s1, s2⟩ := HSW.out W hR
      simp only [Array.getD_eq_getD_getElem?] at h28 h24
      go_simp
      exact hK _ W (Up.refl W) rfl
    · as_aux_lemma =>
      refine UpOb.guarded (d := 24) rfl rfl (fun a W hl => hl 24 (by decide)) fun a W hR hl K hK => ?_
      have h29 : a.tmps.getD 29 undef = (V x) := hl 29 (by decide)
      have h24 : a.tmps.getD 24 undef = (.bool true) := hl 24 (by decide)
      replace hK : ∀ v W2, Up W W2 → v = (sv ⟨4, x, 0, 0, 0, 0⟩) → K (a.put (some 30) v) W2 := fun v W2 h1 h2 => hK v W2 h1 (fun d hd => by cases hd; exact h2)
      clear hl
      simp only [Array.getD_eq_getD_getElem?] at h29 h24
      refine wp_build_of rfl (v := sv ⟨4, x, 0, 0, 0, 0⟩) ?_ (hK _ W (Up.refl W) rfl)
      refine Eq.trans ?_ (build1 4 x W)
      simp only [Act.eval, h29, List.map_toArray, List.map_cons, List.map_nil, Array.getD_eq_getD_getElem?]
    · as_aux_lemma =>
      refine UpOb.guarded (d := 24) rfl rfl (fun a W hl => hl 24 (by decide)) fun a W hR hl K hK => ?_
      have h27 : a.tmps.getD 27 undef = (sv ⟨4, x, 0, 0, 0, 0⟩) := hl 27 (by decide)
      have h30 : a.tmps.getD 30 undef = (sv ⟨4, x, 0, 0, 0, 0⟩) := hl 30 (by decide)
      have h24 : a.tmps.getD 24 undef = (.bool true) := hl 24 (by decide)
      replace hK : ∀ v W2, Up W W2 → v = (.bool true) → K (a.put (some 31) v) W2 := fun v W2 h1 h2 => hK v W2 h1 (fun d hd => by cases hd; exact h2)
      clear hl
      simp only [Array.getD_eq_getD_getElem?] at h27 h30 h24
      have hg := guard_sv
      have he := eql_sv
      go_simp
      exact hK _ W (Up.refl W) rfl
    · as_aux_lemma =>
      refine UpOb.plain rfl fun a W hR hl K hK => ?_
      have h24 : a.tmps.getD 24 undef = (.bool true) := hl 24 (by decide)
      have h31 : a.tmps.getD 31 undef = (.bool true) := hl 31 (by decide)
      replace hK : ∀ v W2, Up W W2 → v = (.bool true) → K (a.put (some 32) v) W2 := fun v W2 h1 h2 => hK v W2 h1 (fun d hd => by cases hd; exact h2)
      clear hl
      simp only [Array.getD_eq_getD_getElem?] at h24 h31
      go_simp
      exact hK _ W (Up.refl W) rfl
    · as_aux_lemma =>
      refine UpOb.plain rfl fun a W hR hl K hK => ?_
      have h32 : a.tmps.getD 32 undef = (.bool true) := hl 32 (by decide)
      replace hK : ∀ v W2, Up W W2 → v = (.bool true) → K (a.put (some 33) v) W2 := fun v W2 h1 h2 => hK v W2 h1 (fun d hd => by cases hd; exact h2)
      clear hl
      simp only [Array.getD_eq_getD_getElem?] at h32
      go_simp
      exact hK _ W (Up.refl W) rfl
    · as_aux_lemma =>
      refine UpOb.guarded (d := 33) rfl rfl (fun a W hl => hl 33 (by decide)) fun a W hR hl K hK => ?_
      have h3 : a.tmps.getD 3 undef = (.pointer (some ⟨w.heap.size, 0, none⟩)) := hl 3 (by decide)
      have h33 : a.tmps.getD 33 undef = (.bool true) := hl 33 (by decide)
      replace hK : ∀ v W2, Up W W2 → v = (.pointer (some ⟨w.heap.size, 1, none⟩)) → K (a.put (some 34) v) W2 := fun v W2 h1 h2 => hK v W2 h1 (fun d hd => by cases hd; exact h2)
      clear hl
      simp only [Array.getD_eq_getD_getElem?] at h3 h33
      go_simp
      exact hK _ W (Up.refl W) rfl
    · as_aux_lemma =>
      refine UpOb.guarded (d := 33) rfl rfl (fun a W hl => hl 33 (by decide)) fun a W hR hl K hK => ?_
      have h34 : a.tmps.getD 34 undef = (.pointer (some ⟨w.heap.size, 1, none⟩)) := hl 34 (by decide)
      have h33 : a.tmps.getD 33 undef = (.bool true) := hl 33 (by decide)
      replace hK : ∀ v W2, Up W W2 → v = (V y) → K (a.put (some 35) v) W2 := fun v W2 h1 h2 => hK v W2 h1 (fun d hd => by cases hd; exact h2)
      clear hl
      obtain ⟨s0, s1, s2⟩ := HSW.out W hR
      simp only [Array.getD_eq_getD_getElem?] at h34 h33
      go_simp
      exact hK _ W (Up.refl W) rfl
    · as_aux_lemma =>
      refine UpOb.guarded (d := 33) rfl rfl (fun a W hl => hl 33 (by decide)) fun a W hR hl K hK => ?_
      have h35 : a.tmps.getD 35 undef = (V y) := hl 35 (by decide)
      have h33 : a.tmps.getD 33 undef = (.bool true) := hl 33 (by decide)
      replace hK : ∀ v W2, Up W W2 → v = (sv ⟨1, y, 0, 0, 0, 0⟩) → K (a.put (some 36) v) W2 := fun v W2 h1 h2 => hK v W2 h1 (fun d hd => by cases hd; exact h2)
      clear hl
      simp only [Array.getD_eq_getD_getElem?] at h35 h33
      go_simp
      refine (vertex_walk W y).mono ?_
      rintro e w4 ⟨rfl, hb4⟩
      exact hK _ w4 hb4 rfl
    · as_aux_lemma =>
      refine UpOb.guarded (d := 33) rfl rfl (fun a W hl => hl 33 (by decide)) fun a W hR hl K hK => ?_
      have h3 : a.tmps.getD 3 undef = (.pointer (some ⟨w.heap.size, 0, none⟩)) := hl 3 (by decide)
      have h33 : a.tmps.getD 33 undef = (.bool true) := hl 33 (by decide)
      replace hK : ∀ v W2, Up W W2 → v = (.pointer (some ⟨w.heap.size, 1, none⟩)) → K (a.put (some 37) v) W2 := fun v W2 h1 h2 => hK v W2 h1 (fun d hd => by cases hd; exact h2)
      clear hl
      simp only [Array.getD_eq_getD_getElem?] at h3 h33
      go_simp
      exact hK _ W (Up.refl W) rfl
    · as_aux_lemma =>
      refine UpOb.guarded (d := 33) rfl rfl (fun a W hl => hl 33 (by decide)) fun a W hR hl K hK => ?_
      have h37 : a.tmps.getD 37 undef = (.pointer (some ⟨w.heap.size, 1, none⟩)) := hl 37 (by decide)
      have h33 : a.tmps.getD 33 undef = (.bool true) := hl 33 (by decide)
      replace hK : ∀ v W2, Up W W2 → v = (V y) → K (a.put (some 38) v) W2 := fun v W2 h1 h2 => hK v W2 h1 (fun d hd => by cases hd; exact h2)
      clear hl
      obtain ⟨s0, s1, s2⟩ := HSW.out W hR
      simp only [Array.getD_eq_getD_getElem?] at h37 h33
      go_simp
      exact hK _ W (Up.refl W) rfl
    · as_aux_lemma =>
      refine UpOb.guarded (d := 33) rfl rfl (fun a W hl => hl 33 (by decide)) fun a W hR hl K hK => ?_
      have h38 : a.tmps.getD 38 undef = (V y) := hl 38 (by decide)
      have h33 : a.tmps.getD 33 undef = (.bool true) := hl 33 (by decide)
      replace hK : ∀ v W2, Up W W2 → v = (sv ⟨1, y, 0, 0, 0, 0⟩) → K (a.put (some 39) v) W2 := fun v W2 h1 h2 => hK v W2 h1 (fun d hd => by cases hd; exact h2)
      clear hl
      simp only [Array.getD_eq_getD_getElem?] at h38 h33
      refine wp_build_of rfl (v := sv ⟨1, y, 0, 0, 0, 0⟩) ?_ (hK _ W (Up.refl W) rfl)
      refine Eq.trans ?_ (build1 1 y W)
      simp only [Act.eval, h38, List.map_toArray, List.map_cons, List.map_nil, Array.getD_eq_getD_getElem?]
    · as_aux_lemma =>
      refine UpOb.guarded (d := 33) rfl rfl (fun a W hl => hl 33 (by decide)) fun a W hR hl K hK => ?_
      have h36 : a.tmps.getD 36 undef = (sv ⟨1, y, 0, 0, 0, 0⟩) := hl 36 (by decide)
      have h39 : a.tmps.getD 39 undef = (sv ⟨1, y, 0, 0, 0, 0⟩) := hl 39 (by decide)
      have h33 : a.tmps.getD 33 undef = (.bool true) := hl 33 (by decide)
      replace hK : ∀ v W2, Up W W2 → v = (.bool true) → K (a.put (some 40) v) W2 := fun v W2 h1 h2 => hK v W2 h1 (fun d hd => by cases hd; exact h2)
      clear hl
      simp only [Array.getD_eq_getD_getElem?] at h36 h39 h33
      have hg := guard_sv
      have he := eql_sv
      go_simp
      exact hK _ W (Up.refl W) rfl
    · as_aux_lemma =>
      refine UpOb.plain rfl fun a W hR hl K hK => ?_
      have h33 : a.tmps.getD 33 undef = (.bool true) := hl 33 (by decide)
      have h40 : a.tmps.getD 40 undef = (.bool true) := hl 40 (by decide)
      replace hK : ∀ v W2, Up W W2 → v = (.bool true) → K (a.put (some 41) v) W2 := fun v W2 h1 h2 => hK v W2 h1 (fun d hd => by cases hd; exact h2)
      clear hl
      simp only [Array.getD_eq_getD_getElem?] at h33 h40
      go_simp
      exact hK _ W (Up.refl W) rfl
    · as_aux_lemma =>
      refine UpOb.plain rfl fun a W hR hl K hK => ?_
      have h41 : a.tmps.getD 41 undef = (.bool true) := hl 41 (by decide)
      replace hK : ∀ v W2, Up W W2 → v = (.bool true) → K (a.put (some 42) v) W2 := fun v W2 h1 h2 => hK v W2 h1 (fun d hd => by cases hd; exact h2)
      clear hl
      simp only [Array.getD_eq_getD_getElem?] at h41
      go_simp
      exact hK _ W (Up.refl W) rfl
    · as_aux_lemma =>
      refine UpOb.guarded (d := 42) rfl rfl (fun a W hl => hl 42 (by decide)) fun a W hR hl K hK => ?_
      have h3 : a.tmps.getD 3 undef = (.pointer (some ⟨w.heap.size, 0, none⟩)) := hl 3 (by decide)
      have h42 : a.tmps.getD 42 undef = (.bool true) := hl 42 (by decide)
      replace hK : ∀ v W2, Up W W2 → v = (.pointer (some ⟨w.heap.size, 2, none⟩)) → K (a.put (some 43) v) W2 := fun v W2 h1 h2 => hK v W2 h1 (fun d hd => by cases hd; exact h2)
      clear hl
      simp only [Array.getD_eq_getD_getElem?] at h3 h42
      go_simp
      exact hK _ W (Up.refl W) rfl
    · as_aux_lemma =>
      refine UpOb.guarded (d := 42) rfl rfl (fun a W hl => hl 42 (by decide)) fun a W hR hl K hK => ?_
      have h43 : a.tmps.getD 43 undef = (.pointer (some ⟨w.heap.size, 2, none⟩)) := hl 43 (by decide)
      have h42 : a.tmps.getD 42 undef = (.bool true) := hl 42 (by decide)
      replace hK : ∀ v W2, Up W W2 → v = (V z) → K (a.put (some 44) v) W2 := fun v W2 h1 h2 => hK v W2 h1 (fun d hd => by cases hd; exact h2)
      clear hl
      obtain ⟨s0, s1, s2⟩ := HSW.out W hR
      simp only [Array.getD_eq_getD_getElem?] at h43 h42
      go_simp
      exact hK _ W (Up.refl W) rfl
    · as_aux_lemma =>
      refine UpOb.guarded (d := 42) rfl rfl (fun a W hl => hl 42 (by decide)) fun a W hR hl K hK => ?_
      have h44 : a.tmps.getD 44 undef = (V z) := hl 44 (by decide)
      have h42 : a.tmps.getD 42 undef = (.bool true) := hl 42 (by decide)
      replace hK : ∀ v W2, Up W W2 → v = (sv ⟨2, z, 0, 0, 0, 0⟩) → K (a.put (some 45) v) W2 := fun v W2 h1 h2 => hK v W2 h1 (fun d hd => by cases hd; exact h2)
      clear hl
      simp only [Array.getD_eq_getD_getElem?] at h44 h42
      go_simp
      refine (novertex_walk W z).mono ?_
      rintro e w4 ⟨rfl, hb4⟩
      exact hK _ w4 hb4 rfl
    · as_aux_lemma =>
      refine UpOb.guarded (d := 42) rfl rfl (fun a W hl => hl 42 (by decide)) fun a W hR hl K hK => ?_
      have h3 : a.tmps.getD 3 undef = (.pointer (some ⟨w.heap.size, 0, none⟩)) := hl 3 (by decide)
      have h42 : a.tmps.getD 42 undef = (.bool true) := hl 42 (by decide)
      replace hK : ∀ v W2, Up W W2 → v = (.pointer (some ⟨w.heap.size, 2, none⟩)) → K (a.put (some 46) v) W2 := fun v W2 h1 h2 => hK v W2 h1 (fun d hd => by cases hd; exact h2)
      clear hl
      simp only [Array.getD_eq_getD_getElem?] at h3 h42
      go_simp
      exact hK _ W (Up.refl W) rfl
    · as_aux_lemma =>
      refine UpOb.guarded (d := 42) rfl rfl (fun a W hl => hl 42 (by decide)) fun a W hR hl K hK => ?_
      have h46 : a.tmps.getD 46 undef = (.pointer (some ⟨w.heap.size, 2, none⟩)) := hl 46 (by decide)
      have h42 : a.tmps.getD 42 undef = (.bool true) := hl 42 (by decide)
      replace hK : ∀ v W2, Up W W2 → v = (V z) → K (a.put (some 47) v) W2 := fun v W2 h1 h2 => hK v W2 h1 (fun d hd => by cases hd; exact h2)
      clear hl
      obtain ⟨s0, s1, s2⟩ := HSW.out W hR
      simp only [Array.getD_eq_getD_getElem?] at h46 h42
      go_simp
      exact hK _ W (Up.refl W) rfl
    · as_aux_lemma =>
      refine UpOb.guarded (d := 42) rfl rfl (fun a W hl => hl 42 (by decide)) fun a W hR hl K hK => ?_
      have h47 : a.tmps.getD 47 undef = (V z) := hl 47 (by decide)
      have h42 : a.tmps.getD 42 undef = (.bool true) := hl 42 (by decide)
      replace hK : ∀ v W2, Up W W2 → v = (sv ⟨2, z, 0, 0, 0, 0⟩) → K (a.put (some 48) v) W2 := fun v W2 h1 h2 => hK v W2 h1 (fun d hd => by cases hd; exact h2)
      clear hl
      simp only [Array.getD_eq_getD_getElem?] at h47 h42
      refine wp_build_of rfl (v := sv ⟨2, z, 0, 0, 0, 0⟩) ?_ (hK _ W (Up.refl W) rfl)
      refine Eq.trans ?_ (build1 2 z W)
      simp only [Act.eval, h47, List.map_toArray, List.map_cons, List.map_nil, Array.getD_eq_getD_getElem?]
    · as_aux_lemma =>
      refine UpOb.guarded (d := 42) rfl rfl (fun a W hl => hl 42 (by decide)) fun a W hR hl K hK => ?_
      have h45 : a.tmps.getD 45 undef = (sv ⟨2, z, 0, 0, 0, 0⟩) := hl 45 (by decide)
      have h48 : a.tmps.getD 48 undef = (sv ⟨2, z, 0, 0, 0, 0⟩) := hl 48 (by decide)
      have h42 : a.tmps.getD 42 undef = (.bool true) := hl 42 (by decide)
      replace hK : ∀ v W2, Up W W2 → v = (.bool true) → K (a.put (some 49) v) W2 := fun v W2 h1 h2 => hK v W2 h1 (fun d hd => by cases hd; exact h2)
      clear hl
      simp only [Array.getD_eq_getD_getElem?] at h45 h48 h42
      have hg := guard_sv
      have he := eql_sv
      go_simp
      exact hK _ W (Up.refl W) rfl
    · as_aux_lemma =>
      refine UpOb.plain rfl fun a W hR hl K hK => ?_
      have h42 : a.tmps.getD 42 undef = (.bool true) := hl 42 (by decide)
      have h49 : a.tmps.getD 49 undef = (.bool true) := hl 49 (by decide)
      replace hK : ∀ v W2, Up W W2 → v = (.bool true) → K (a.put (some 50) v) W2 := fun v W2 h1 h2 => hK v W2 h1 (fun d hd => by cases hd; exact h2)
      clear hl
      simp only [Array.getD_eq_getD_getElem?] at h42 h49
      go_simp
      exact hK _ W (Up.refl W) rfl
    · as_aux_lemma =>
      refine UpOb.plain rfl fun a W hR hl K hK => ?_
      have h50 : a.tmps.getD 50 undef = (.bool true) := hl 50 (by decide)
      replace hK : ∀ v W2, Up W W2 → v = (.bool true) → K (a.put (some 6) v) W2 := fun v W2 h1 h2 => hK v W2 h1 (fun d hd => by cases hd; exact h2)
      clear hl
      simp only [Array.getD_eq_getD_getElem?] at h50
      go_simp
      exact hK _ W (Up.refl W) rfl
  · intro A0 W hd hR hl
    have h6 : A0.tmps.getD 6 undef = .bool true := hl 6
    go_wp2
    exact bodyPost_ret (results_tmp rfl _ _ _) hd ⟨by rw [← h6], HB1.out.trans (Below.mono hR HB1.out.size)⟩
end Go.Proofs.YtfeoocgmbikocaaGreat
