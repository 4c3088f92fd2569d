/- The statement on picks: for every row of digests and of kinds the call returns true, and they read as before. -/
import Derived.Test.YtekhnacgejfmjaaNj
import Derived.Test.YtekhnacgejfmjaaN8
import Derived.Lib.SmallJoins
import Derived.Deep.Slices
namespace Go.Proofs.Ytekhnacgejfmjaa
open Go.ChangeShapes Go.WideShapes Go.ChangeAt Go.RowKit Go.WideMaps Go.WideElems

theorem laidOut7 : laidOutB Try.prog = true := by kernel_rfl
theorem cells4 : Try.prog.cellsOf 4 = 1 := by kernel_rfl
theorem spotless {W : World} {a : Addr} {v : Value} (h : W.cell? (a.add 0) = some v) : ∃ b o, a = ⟨b, o, none⟩ ∧ b < W.heap.size := by
  obtain ⟨b, o, spot⟩ := a
  have hs : spot = none := by simpa [Addr.add] using World.cell?_spot h
  subst hs
  have := World.block_lt_of_cell? W _ h
  rw [addr_add2] at this
  exact ⟨b, o, rfl, this⟩
section
variable {H : Type} {enc : TypeId × Value → H} {W : World} {base : Nat} {sp : Nat → Bool} {hd : Bool} {d : DataW H} {p : List MemPlace}
theorem grow_list {α : Type} {n : Nat} {R : Nat → α → Prop} (h : ∀ i, i < n → ∃ x, R i x) : ∃ l : List α, l.length = n ∧ ∀ i (hi : i < l.length), R i l[i] := by
  induction n with
  | zero => exact ⟨[], rfl, fun i h => by simp at h⟩
  | succ k ih =>
    obtain ⟨l, hl, hi⟩ := ih (fun i h1 => h i (by omega))
    obtain ⟨x, hx⟩ := h k (by omega)
    refine ⟨l ++ [x], by simp [hl], fun i h1 => ?_⟩
    by_cases e : i < l.length
    · rw [List.getElem_append_left e]; exact hi i e
    · have hik : i = l.length := by simp at h1; omega
      subst hik
      simp only [List.getElem_append_right (Nat.le_refl _), Nat.sub_self, List.getElem_cons_zero]
      rw [hl]; exact hx
/-- 32 cells that read as a digest. -/
theorem dig_cells {fuel : Nat} {cs : List Value} {x : DataW H × List MemPlace} (h : DataW.trod enc Try.prog W base sp hd fuel 25 cs = some x) : ∃ l : List UInt8, l.length = 32 ∧ cs = l.map U := by
  obtain ⟨xs, m, _, _, hcl, hxl, hx⟩ := DataW.trod_array Try.underlying25 h
  rw [cells25] at hcl
  have hcell : ∀ i, i < 32 → ∃ b : UInt8, cs[i]? = some (U b) := by
    intro i hi
    have h1 := hx i hi
    rw [List.getElem?_eq_getElem (by omega)] at h1
    obtain ⟨n, hc, _, hwf⟩ := DataW.trod_int Try.underlying5 h1
    have hb := bounds_b8 hwf
    refine ⟨UInt8.ofNat n.toNat, ?_⟩
    have h2 := congrArg (fun l => l[0]?) hc
    simp only [cells5, Nat.mul_one, List.getElem?_take, List.getElem?_drop, Nat.add_zero, Nat.zero_lt_one, if_true, List.getElem?_cons_zero] at h2
    rw [h2, U_def]
    have : (UInt8.ofNat n.toNat).toNat = n.toNat := by show n.toNat % 256 = _; omega
    rw [this]
    congr 2
    omega
  obtain ⟨l, hl, hi⟩ := grow_list hcell
  refine ⟨l, hl, List.ext_getElem? fun i => ?_⟩
  by_cases hlt : i < l.length
  · rw [hi i hlt]; simp [hlt]
  · rw [List.getElem?_eq_none (by omega), List.getElem?_eq_none (by simp; omega)]
theorem open_digs {A : Option Addr} {n c : Nat} (h : DataW.Trod enc Try.prog W base sp hd 31 (.slice A n c) d p) : ∃ ds : List (List UInt8), n = ds.length ∧ RdD W A ds := by
  obtain ⟨fuel, hf⟩ := h
  rcases Go.Deep.open_slice Try.underlying31 hf with ⟨hcs, _⟩ | ⟨a, len, cap, m, k, D, Pl, hcs, _, hl, hx, hm, _, hel⟩
  · simp [Value.cells] at hcs
    obtain ⟨rfl, rfl, rfl⟩ := hcs
    exact ⟨[], rfl, ⟨(fun D hD => by cases hD), fun h => absurd rfl h⟩⟩
  · simp [Value.cells] at hcs
    obtain ⟨rfl, rfl, rfl⟩ := hcs
    have hle : n ≤ m := by rw [hm]; split <;> omega
    have hone : ∀ i, i < n → ∃ l : List UInt8, l.length = 32 ∧ ∀ j, j < 32 → W.cell? ((a.add (i * 32)).add j) = (l.map U)[j]? := by
      intro i hi
      obtain ⟨cs', h1, h2⟩ := hel i (by omega)
      rw [cells25] at h1
      obtain ⟨l, hl32, rfl⟩ := dig_cells h2
      exact ⟨l, hl32, fun j hj => (World.cells?_some h1).2.2 j hj⟩
    obtain ⟨ds, hdl, hds⟩ := grow_list hone
    refine ⟨ds, hdl.symm, fun D hD => ?_, fun h0 => ?_⟩
    · obtain ⟨i, hi, rfl⟩ := List.mem_iff_getElem.1 hD
      exact (hds i hi).1
    · have hv0 : ∃ v, W.cell? ((a.add (0 * 32)).add 0) = some v := ⟨_, ((hds 0 (by omega)).2 0 (by omega)).trans (List.getElem?_eq_getElem (by rw [List.length_map, (hds 0 (by omega)).1]; omega))⟩
      obtain ⟨v0, h00⟩ := hv0
      rw [Nat.zero_mul] at h00
      have e0 : (a.add 0).add 0 = a.add 0 := by
        obtain ⟨b, o, s⟩ := a
        unfold Addr.add; cases s <;> simp
      rw [e0] at h00
      obtain ⟨b, o, rfl, hb⟩ := spotless h00
      refine ⟨b, o, rfl, hb, fun i hi j v hv => ?_⟩
      have hj : j < 32 := by
        have := (List.getElem?_eq_some_iff.1 hv).1
        rw [List.length_map, (hds i hi).1] at this
        exact this
      have h1 := (hds i hi).2 j hj
      rw [addr_add2, addr_add2, hv] at h1
      exact h1
theorem open_kinds {A : Option Addr} {n c : Nat} (h : DataW.Trod enc Try.prog W base sp hd 32 (.slice A n c) d p) : ∃ ks : List Bool, n = ks.length ∧ RdB W A ks := by
  obtain ⟨fuel, hf⟩ := h
  rcases Go.Deep.open_slice1 Try.underlying32 cells4 hf with ⟨hcs, _⟩ | ⟨a, len, cap, m, k, Vf, D, Pl, hcs, _, hl, hx, hm, _, hel⟩
  · simp [Value.cells] at hcs
    obtain ⟨rfl, rfl, rfl⟩ := hcs
    exact ⟨[], rfl, fun h => absurd rfl h⟩
  · simp [Value.cells] at hcs
    obtain ⟨rfl, rfl, rfl⟩ := hcs
    have hle : n ≤ m := by rw [hm]; split <;> omega
    have hone : ∀ i, i < n → ∃ x : Bool, W.cell? (a.add i) = some (.bool x) := by
      intro i hi
      obtain ⟨h1, h2⟩ := hel i (by omega)
      obtain ⟨b, e0, _⟩ := DataW.trod_bool Try.underlying4 h2
      have e1 : Vf i = .bool b := by simpa using e0
      exact ⟨b, by rw [h1, e1]⟩
    obtain ⟨ks, hkl, hks⟩ := grow_list hone
    refine ⟨ks, hkl.symm, fun h0 => ?_⟩
    obtain ⟨b, o, rfl, hb⟩ := spotless (hks 0 (by omega))
    refine ⟨b, o, rfl, hb, fun i hi => ?_⟩
    have h1 := hks i hi
    rw [addr_add2] at h1
    exact h1
end
set_option maxRecDepth 100000 in
theorem picks_lifted (os : Os) (started : os.Started) (H : Type) (enc : TypeId × Value → H) :
    ReturnsInHanded {} Try.checked os 5 .any (Rows.namePicksSpec.pre6 enc Try.prog Try.f5 Rows.namePicksRow.domain false) (Rows.namePicksSpec.post enc Try.prog Try.f5 false true false false) := by
  refine returnsInHanded_of_change (C := Try.checked) own7 started (by kernel_rfl) Try.func5
    (ChangeSpec.witness6 (enc := enc) (C := Try.checked) false ⟨#[], #[.slice none 0 0, .slice none 0 0], []⟩ 8 (by kernel_rfl) (by kernel_rfl) (by kernel_rfl) (by kernel_rfl)) ?_
  intro W base args ds gs before hval0 hW _ _
  have hval : ∀ (j : Nat) t v, Try.f5.params[j]? = some t → args[j]? = some v → Value.okWide Try.prog W .any base t v := hval0
  have hW' := hW
  obtain ⟨p, q, hA0, hV, rfl, _, _⟩ := hW
  have hA : DataW.TrodAll enc Try.prog W 0 (fun _ => true) true Try.f5.params.toList args.toList ds p := hA0
  rw [Try.params5] at hA hval
  obtain ⟨v0, vs0, d0, ds0, p0, q0, hargs, rfl, rfl, h0, r0⟩ := trodAll_cons hA
  obtain ⟨v1, vs1, d1, ds1, p1, q1, rfl, rfl, rfl, h1, r1⟩ := trodAll_cons r0
  obtain ⟨rfl, rfl, rfl⟩ := trodAll_nil r1
  obtain rfl : args = #[v0, v1] := by cases args; simp_all
  obtain ⟨rfl, rfl⟩ := trodVars_none hV
  clear hA0 hval0
  simp only [List.append_nil] at hW'
  obtain ⟨a1, l1, c1, rfl⟩ := okWide_slice Try.underlying31 (hval 0 31 v0 rfl rfl)
  obtain ⟨a2, l2, c2, rfl⟩ := okWide_slice Try.underlying32 (hval 1 32 v1 rfl rfl)
  have hlt : ∀ x ∈ p0 ++ (p1 ++ []), x.block < W.heap.size := fun x hx => by simpa using hW'.lt x (by simpa using hx)
  obtain ⟨l, hl, hr⟩ := open_digs h0
  obtain ⟨m, hm, hr2⟩ := open_kinds h1
  have hc : Calls Try.prog 5 #[.slice a1 l1 c1, .slice a2 l2 c2] W fun e W' => e = .returned (.bool true) ∧ Below W.heap.size W W' := by
    rw [hl, hm]
    exact picks_walk W a1 a2 c1 c2 l m hr hr2
  refine hc.mono fun e W' ⟨he, hb⟩ => ?_
  subst he
  have hk : ∀ (t : TypeId) (v : Value) (d : DataW H) (pl : List MemPlace), (∀ x ∈ pl, x.block < W.heap.size) → Try.prog.readableRec t = true → t < Try.prog.types.size → DataW.Trod enc Try.prog W 0 (fun _ => true) true t v d pl →
      DataW.Trod enc Try.prog W' 0 (fun b => decide (b < W.heap.size)) true t v d pl := fun t v d pl hl hr hts h => Below.trod laidOut7 hr hts h hb hl
  exact ⟨_, rfl, _, _, _, [], _, [], hW', trodAll_cons_mk (shut_bool Try.underlying4 _) trodAll_mk0, trodAll_cons_mk (hk 31 _ _ _ (fun x hx => hlt x (by simp [hx])) (by kernel_rfl) (of_decide_eq_true (by kernel_rfl)) h0) (trodAll_cons_mk (hk 32 _ _ _ (fun x hx => hlt x (by simp [hx])) (by kernel_rfl) (of_decide_eq_true (by kernel_rfl)) h1) trodAll_mk0), rfl, hb.frame _, fun h => by cases h⟩

theorem picks_said : Rows.NamePicksSaid :=
  OpenClaim.holds_of_wide 5 Try.f5 rfl rfl rfl rfl rfl rfl rfl ⟨rfl, rfl, rfl, rfl, rfl⟩ rfl rfl rfl rfl rfl (by kernel_rfl) Try.func5 (by kernel_rfl)
    (of_decide_eq_true (by kernel_rfl)) (by unfold Func.isWrapper; first | (rw [if_pos (by decide +kernel)]; kernel_rfl) | (rw [if_neg (by decide +kernel)]; exact ⟨rfl, rfl⟩))
    (fun os started H enc _ => picks_lifted os started H enc)
end Go.Proofs.Ytekhnacgejfmjaa
