/- The statement on what tells steps: for every edge and places the call returns true, and they read as before. -/
import Derived.Test.YtfeoocgmbikocaaGreatU1
import Derived.Test.YtfeoocgmbikocaaGreatI7a
namespace Go.Proofs.YtfeoocgmbikocaaGreat
open Go.ChangeShapes Go.WideShapes Go.ChangeAt Go.RowKit

set_option maxRecDepth 100000 in
theorem smakes_lifted (os : Os) (started : os.Started) (H : Type) (enc : TypeId × Value → H) :
    ReturnsInHanded {} Tryz.checked os 5 .any (Rows.sketchMakesSpec.pre6 enc Tryz.prog Tryz.f5 Rows.sketchMakesRow.domain false) (Rows.sketchMakesSpec.post enc Tryz.prog Tryz.f5 false true false false) := by
  refine returnsInHanded_of_change (C := Tryz.checked) own started (by kernel_rfl) Tryz.func5
    (ChangeSpec.witness6 (enc := enc) (C := Tryz.checked) false ⟨#[], #[.agg #[.int .u32 0, .int .u32 0, .int .u32 0], .int .u32 0, .int .u32 0], []⟩ 8 (by kernel_rfl) (by kernel_rfl) (by kernel_rfl) (by kernel_rfl)) ?_
  intro W base args ds gs before hval0 hW _ _
  have hval : ∀ (j : Nat) t v, Tryz.f5.params[j]? = some t → args[j]? = some v → Value.okWide Tryz.prog W .any base t v := hval0
  have hW' := hW
  obtain ⟨p, q, hA0, hV, rfl, _, _⟩ := hW
  have hA : DataW.TrodAll enc Tryz.prog W 0 (fun _ => true) true Tryz.f5.params.toList args.toList ds p := hA0
  rw [Tryz.params5] at hA hval
  obtain ⟨v0, vs0, d0, ds0, p0, q0, hargs, rfl, rfl, h0, r0⟩ := trodAll_cons hA
  obtain ⟨v1, vs1, d1, ds1, p1, q1, rfl, rfl, rfl, h1, r1⟩ := trodAll_cons r0
  obtain ⟨v2, vs2, d2, ds2, p2, q2, rfl, rfl, rfl, h2, r2⟩ := trodAll_cons r1
  obtain ⟨rfl, rfl, rfl⟩ := trodAll_nil r2
  obtain rfl : args = #[v0, v1, v2] := by cases args; simp_all
  obtain ⟨rfl, rfl⟩ := trodVars_none hV
  clear hA0 hval0
  simp only [List.append_nil] at hW'
  obtain ⟨cs, rfl, hcs⟩ := okWide_struct Tryz.underlying60 (hval 0 60 v0 rfl rfl)
  rw [cells39] at hcs
  have hedge : ∃ x y z : UInt32, cs = #[V x, V y, V z] := by
    obtain ⟨fuel, hf⟩ := h0
    have hf2 : DataW.trod enc Tryz.prog W 0 (fun _ => true) true fuel 60 cs.toList = some (d0, p0) := by simpa [Value.cells] using hf
    obtain ⟨x, y, z, he⟩ := open_eg hf2 (by simpa using hcs)
    exact ⟨x, y, z, by cases cs; simp_all⟩
  obtain ⟨x, y, z, rfl⟩ := hedge
  obtain ⟨z1, rfl, rfl, rfl, wz1⟩ := open_int Tryz.underlying55 (hval 1 55 v1 rfl rfl) h1
  obtain ⟨b1, e1, _⟩ := to_u32 (bounds_u32 wz1)
  obtain ⟨z2, rfl, rfl, rfl, wz2⟩ := open_int Tryz.underlying55 (hval 2 55 v2 rfl rfl) h2
  obtain ⟨b2, e2, _⟩ := to_u32 (bounds_u32 wz2)
  have hlt : ∀ x ∈ p0 ++ ([] : List MemPlace), x.block < W.heap.size := fun x hx => by simpa using hW'.lt x (by simpa using hx)
  have hc : Calls Tryz.prog 5 #[.agg #[V x, V y, V z], .int .u32 z1, .int .u32 z2] W fun e W' => e = .returned (.bool true) ∧ Below W.heap.size W W' := by
    rw [e1, e2]
    exact smakes_walk W x y z b1 b2
  refine hc.mono fun e W' ⟨he, hb⟩ => ?_
  subst he
  have hk : ∀ (t : TypeId) (v : Value) (d : DataW H) (pl : List MemPlace), (∀ x ∈ pl, x.block < W.heap.size) → Tryz.prog.readableRec t = true → t < Tryz.prog.types.size → DataW.Trod enc Tryz.prog W 0 (fun _ => true) true t v d pl →
      DataW.Trod enc Tryz.prog W' 0 (fun b => decide (b < W.heap.size)) true t v d pl := fun t v d pl hl hr hts h => Below.trod laidOut hr hts h hb hl
  exact ⟨_, rfl, _, _, _, [], _, [], hW', trodAll_cons_mk (shut_bool Tryz.underlying4 _) trodAll_mk0, trodAll_cons_mk (hk 60 _ _ _ (fun x hx => hlt x (by simp [hx])) (by kernel_rfl) (of_decide_eq_true (by kernel_rfl)) h0) (trodAll_cons_mk (shut_int Tryz.underlying55 wz1) (trodAll_cons_mk (shut_int Tryz.underlying55 wz2) trodAll_mk0)), rfl, hb.frame _, fun h => by cases h⟩

theorem sketch_makes_said : Rows.SketchMakesSaid :=
  OpenClaim.holds_of_wide 5 Tryz.f5 rfl rfl rfl rfl rfl rfl rfl ⟨rfl, rfl, rfl, rfl, rfl⟩ rfl rfl rfl rfl rfl (by kernel_rfl) Tryz.func5 (by kernel_rfl)
    (of_decide_eq_true (by kernel_rfl)) (by unfold Func.isWrapper; first | (rw [if_pos (by decide +kernel)]; kernel_rfl) | (rw [if_neg (by decide +kernel)]; exact ⟨rfl, rfl⟩))
    (fun os started H enc _ => smakes_lifted os started H enc)
end Go.Proofs.YtfeoocgmbikocaaGreat
