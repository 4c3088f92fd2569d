/- The statement on how a graph looks: for every graph, two numbers and a bool the call returns true, and they read as before. -/
import Derived.Test.YtbhoingiibcboaaJ8
import Derived.Test.YtbhoingiibcboaaI7
namespace Go.Proofs.Ytbhoingiibcboaa
open Go.ChangeShapes Go.WideShapes Go.ChangeAt Go.RowKit

set_option maxRecDepth 100000 in
theorem looks_lifted (os : Os) (started : os.Started) (H : Type) (enc : TypeId × Value → H) :
    ReturnsInHanded {} Try.checked os 4 .any (Rows.graphLooksSpec.pre6 enc Try.prog Try.f4 Rows.graphLooksRow.domain false) (Rows.graphLooksSpec.post enc Try.prog Try.f4 false true false false) := by
  refine returnsInHanded_of_change (C := Try.checked) own started (by kernel_rfl) Try.func4
    (ChangeSpec.witness6 (enc := enc) (C := Try.checked) false ⟨#[], #[.agg #[.slice none 0 0, .slice none 0 0], .int .u32 0, .int .u32 0, .bool false], []⟩ 8 (by kernel_rfl) (by kernel_rfl) (by kernel_rfl) (by kernel_rfl)) ?_
  intro W base args ds gs before hval0 hW _ _
  have hval : ∀ (j : Nat) t v, Try.f4.params[j]? = some t → args[j]? = some v → Value.okWide Try.prog W .any base t v := hval0
  have hW' := hW
  obtain ⟨p, q, hA0, hV, rfl, _, _⟩ := hW
  have hA : DataW.TrodAll enc Try.prog W 0 (fun _ => true) true Try.f4.params.toList args.toList ds p := hA0
  rw [Try.params4] at hA hval
  obtain ⟨v0, vs0, d0, ds0, p0, q0, hargs, rfl, rfl, h0, r0⟩ := trodAll_cons hA
  obtain ⟨v1, vs1, d1, ds1, p1, q1, rfl, rfl, rfl, h1, r1⟩ := trodAll_cons r0
  obtain ⟨v2, vs2, d2, ds2, p2, q2, rfl, rfl, rfl, h2, r2⟩ := trodAll_cons r1
  obtain ⟨v3, vs3, d3, ds3, p3, q3, rfl, rfl, rfl, h3, r3⟩ := trodAll_cons r2
  obtain ⟨rfl, rfl, rfl⟩ := trodAll_nil r3
  obtain rfl : args = #[v0, v1, v2, v3] := by cases args; simp_all
  obtain ⟨rfl, rfl⟩ := trodVars_none hV
  clear hA0 hval0
  simp only [List.append_nil] at hW'
  obtain ⟨A, n, c, B, m, e, hv0, hg⟩ := open_graph (hval 0 25 v0 rfl rfl) h0
  obtain ⟨z, rfl, rfl, rfl, wz⟩ := open_int Try.underlying31 (hval 1 31 v1 rfl rfl) h1
  obtain ⟨t, rfl, rfl, rfl, wt⟩ := open_int Try.underlying31 (hval 2 31 v2 rfl rfl) h2
  obtain ⟨odd, rfl, rfl, rfl⟩ := open_bool Try.underlying4 (hval 3 4 v3 rfl rfl) h3
  obtain ⟨bz, ez, _⟩ := to_u32 (bounds_u32 wz)
  obtain ⟨bt, et, _⟩ := to_u32 (bounds_u32 wt)
  have hlt : ∀ x ∈ p0 ++ ([] : List MemPlace), x.block < W.heap.size := fun x hx => by simpa using hW'.lt x (by simpa using hx)
  have hc : Calls Try.prog 4 #[v0, .int .u32 z, .int .u32 t, .bool odd] W fun e W' => e = .returned (.bool true) ∧ Below W.heap.size W W' := by
    rw [ez, et]
    by_cases h : 64 < n ∨ 160 < m
    · rw [hv0]; exact looks_not W A B n c m e bz bt odd 6 (by decide) (fun W' _ => rcheck_many W' A B n c m e h)
    · obtain ⟨g, _, _, hr⟩ := hg (by omega) (by omega)
      by_cases hk : chk g = 0
      · exact looks_walk W v0 g bz bt odd hr hk
      · have hr2 := hr
        obtain ⟨A2, c2, B2, d2, rfl, _⟩ := hr2
        exact looks_not W _ _ _ _ _ _ bz bt odd (chk g) hk (fun W' hb => rcheck_walk W' _ g (hr.kept hb))
  refine hc.mono fun e W' ⟨he, hb⟩ => ?_
  subst he
  have hk : ∀ (t : TypeId) (v : Value) (d : DataW H) (pl : List MemPlace), (∀ x ∈ pl, x.block < W.heap.size) → Try.prog.readableRec t = true → t < Try.prog.types.size → DataW.Trod enc Try.prog W 0 (fun _ => true) true t v d pl →
      DataW.Trod enc Try.prog W' 0 (fun b => decide (b < W.heap.size)) true t v d pl := fun t v d pl hl hr hts h => Below.trod laidOut hr hts h hb hl
  exact ⟨_, rfl, _, _, _, [], _, [], hW', trodAll_cons_mk (shut_bool Try.underlying4 _) trodAll_mk0, trodAll_cons_mk (hk 25 _ _ _ (fun x hx => hlt x (by simp [hx])) (by kernel_rfl) (of_decide_eq_true (by kernel_rfl)) h0) (trodAll_cons_mk (shut_int Try.underlying31 wz) (trodAll_cons_mk (shut_int Try.underlying31 wt) (trodAll_cons_mk (shut_bool Try.underlying4 _) trodAll_mk0))), rfl, hb.frame _, fun h => by cases h⟩

theorem graph_looks_said : Rows.GraphLooksSaid :=
  OpenClaim.holds_of_wide 4 Try.f4 rfl rfl rfl rfl rfl rfl rfl ⟨rfl, rfl, rfl, rfl, rfl⟩ rfl rfl rfl rfl rfl (by kernel_rfl) Try.func4 (by kernel_rfl)
    (of_decide_eq_true (by kernel_rfl)) (by unfold Func.isWrapper; first | (rw [if_pos (by decide +kernel)]; kernel_rfl) | (rw [if_neg (by decide +kernel)]; exact ⟨rfl, rfl⟩))
    (fun os started H enc _ => looks_lifted os started H enc)
end Go.Proofs.Ytbhoingiibcboaa
