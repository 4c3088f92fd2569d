/- The statement on the faces of maps: for every map and dart the call returns true, and they read as before. -/
import Derived.Test.YtcinbmekjlmdpaaGreatY0w
import Derived.Test.YtcinbmekjlmdpaaGreatRows

/-! The statement on the faces of maps: for every map and dart the call returns true, and they read as before. -/
namespace Go.Proofs.YtcinbmekjlmdpaaGreat
open Go.ChangeShapes Go.WideShapes Go.ChangeAt Go.RowKit

theorem rotfaces_any {W : World} {v : Value} {A B C : Option Addr} {n c m e k f : Nat} (x : UInt32) (hv : v = .agg #[.slice A n c, .slice B m e, .slice C k f])
    (h : n ≤ 1000000 → m ≤ 1000000 → ∃ (g : Gr) (rots : List (List UInt32)), n = g.vs.length ∧ m = g.es.length ∧ k = rots.length ∧ RMx W v g rots) :
    Calls Tryz.prog 4 #[v, V x] W fun e W' => e = .returned (.bool true) ∧ Below W.heap.size W W' := by
  by_cases hf : n ≤ 70 ∧ m ≤ 60 ∧ k ≤ 80
  · obtain ⟨g, rots, rfl, rfl, rfl, hr⟩ := h (by omega) (by omega)
    by_cases hk : rck g rots = 0
    · exact rotfaces_good W v g rots x (hr.rm fun i hi => by have := (MapOk.of hk).short hi; omega) hr hf.1 hf.2.1 hf.2.2 hk
    · exact rotfaces_bad W v g rots x hr hf.1 hf.2.1 hf.2.2 hk
  · rw [hv]; exact rotfaces_many W A B C n c m e k f x hf
set_option maxRecDepth 100000 in
theorem rotfaces_lifted (os : Os) (started : os.Started) (H : Type) (enc : TypeId × Value → H) :
    ReturnsInHanded {} Tryz.checked os 4 .any (Rows.rotFacesSpec.pre6 enc Tryz.prog Tryz.f4 Rows.rotFacesRow.domain false) (Rows.rotFacesSpec.post enc Tryz.prog Tryz.f4 false true false false) := by
  refine returnsInHanded_of_change (C := Tryz.checked) own started (by kernel_rfl) Tryz.func4
    (ChangeSpec.witness6 (enc := enc) (C := Tryz.checked) false ⟨#[], #[.agg #[.slice none 0 0, .slice none 0 0, .slice none 0 0], .int .u32 0], []⟩ 8 (by kernel_rfl) (by kernel_rfl) (by kernel_rfl) (by kernel_rfl)) ?_
  intro W base args ds gs before hval0 hW _ _
  have hval : ∀ (j : Nat) t v, Tryz.f4.params[j]? = some t → args[j]? = some v → Value.okWide Tryz.prog W .any base t v := hval0
  have hW' := hW
  obtain ⟨p, q, hA0, hV, rfl, _, _⟩ := hW
  have hA : DataW.TrodAll enc Tryz.prog W 0 (fun _ => true) true Tryz.f4.params.toList args.toList ds p := hA0
  rw [Tryz.params4] at hA hval
  obtain ⟨v0, vs0, d0, ds0, p0, q0, hargs, rfl, rfl, h0, r0⟩ := trodAll_cons hA
  obtain ⟨v1, vs1, d1, ds1, p1, q1, rfl, rfl, rfl, h1, r1⟩ := trodAll_cons r0
  obtain ⟨rfl, rfl, rfl⟩ := trodAll_nil r1
  obtain rfl : args = #[v0, v1] := by cases args; simp_all
  obtain ⟨rfl, rfl⟩ := trodVars_none hV
  clear hA0 hval0
  simp only [List.append_nil] at hW'
  obtain ⟨A, n, c, B, m, e, C, k, f, hv0, hg⟩ := open_map (hval 0 28 v0 rfl rfl) h0
  obtain ⟨z, rfl, rfl, rfl, wz⟩ := open_int Tryz.underlying34 (hval 1 34 v1 rfl rfl) h1
  obtain ⟨bz, ez, _⟩ := to_u32 (bounds_u32 wz)
  have hlt : ∀ x ∈ p0 ++ ([] : List MemPlace), x.block < W.heap.size := fun x hx => by simpa using hW'.lt x (by simpa using hx)
  have hc : Calls Tryz.prog 4 #[v0, .int .u32 z] W fun e W' => e = .returned (.bool true) ∧ Below W.heap.size W W' := by
    rw [ez]
    exact rotfaces_any bz hv0 hg
  refine hc.mono fun e W' ⟨he, hb⟩ => ?_
  subst he
  have hk : ∀ (t : TypeId) (v : Value) (d : DataW H) (pl : List MemPlace), (∀ x ∈ pl, x.block < W.heap.size) → Tryz.prog.readableRec t = true → t < Tryz.prog.types.size → DataW.Trod enc Tryz.prog W 0 (fun _ => true) true t v d pl →
      DataW.Trod enc Tryz.prog W' 0 (fun b => decide (b < W.heap.size)) true t v d pl := fun t v d pl hl hr hts h => Below.trod laidOut hr hts h hb hl
  exact ⟨_, rfl, _, _, _, [], _, [], hW', trodAll_cons_mk (shut_bool Tryz.underlying4 _) trodAll_mk0, trodAll_cons_mk (hk 28 _ _ _ (fun x hx => hlt x (by simp [hx])) (by kernel_rfl) (of_decide_eq_true (by kernel_rfl)) h0) (trodAll_cons_mk (shut_int Tryz.underlying34 wz) trodAll_mk0), rfl, hb.frame _, fun h => by cases h⟩

theorem rot_faces_said : Rows.RotFacesSaid :=
  OpenClaim.holds_of_wide 4 Tryz.f4 rfl rfl rfl rfl rfl rfl rfl ⟨rfl, rfl, rfl, rfl, rfl⟩ rfl rfl rfl rfl rfl (by kernel_rfl) Tryz.func4 (by kernel_rfl)
    (of_decide_eq_true (by kernel_rfl)) (by unfold Func.isWrapper; first | (rw [if_pos (by decide +kernel)]; kernel_rfl) | (rw [if_neg (by decide +kernel)]; exact ⟨rfl, rfl⟩))
    (fun os started H enc _ => rotfaces_lifted os started H enc)
end Go.Proofs.YtcinbmekjlmdpaaGreat
