/- The statement on the order of files' names: for every two digests the call returns true, and they read as before. -/
import Derived.Test.YtekhnacgejfmjaaN7
import Derived.Test.YtekhnacgejfmjaaN5
import Derived.Deep.DeepHandedRow
namespace Go.Proofs.Ytekhnacgejfmjaa
open Go.ChangeShapes Go.WideShapes Go.ChangeAt Go.RowKit Go.WideMaps Go.WideElems

theorem cells25 : Try.prog.cellsOf 25 = 32 := by kernel_rfl
theorem cells5 : Try.prog.cellsOf 5 = 1 := by kernel_rfl
theorem bounds_b8 {n : Int} (h : (Lit.int .u8 n).wf = true) : 0 ≤ n ∧ n ≤ 255 := by
  simp [Lit.wf, IntKind.min, IntKind.max, IntKind.signed, IntKind.bits] at h
  omega
section
variable {H : Type} {enc : TypeId × Value → H} {W W' : World}
theorem open_dig {r : Reach} {base b : Nat} {sp : Nat → Bool} {hd : Bool} {v : Value} {d : DataW H} {p : List MemPlace} (hv : Value.okWide Try.prog W r base 25 v) (h : DataW.Trod enc Try.prog W b sp hd 25 v d p) :
    ∃ l : List UInt8, l.length = 32 ∧ v = .agg (l.map U).toArray := by
  simp only [Value.okWide, Try.underlying25] at hv
  obtain ⟨cs, rfl, hsz, _⟩ := hv
  rw [cells25] at hsz
  obtain ⟨fuel, hf⟩ := h
  obtain ⟨xs, m, _, _, _, hxl, hx⟩ := DataW.trod_array Try.underlying25 hf
  have hcell : ∀ i, i < 32 → ∃ b : UInt8, cs[i]? = some (U b) := by
    intro i hi
    have h1 := hx i hi
    rw [List.getElem?_eq_getElem (by omega)] at h1
    obtain ⟨n, hc, _, hwf⟩ := DataW.trod_int Try.underlying5 h1
    have hb := bounds_b8 hwf
    refine ⟨UInt8.ofNat n.toNat, ?_⟩
    have h2 := congrArg (fun l => l[0]?) hc
    simp only [cells5, Nat.mul_one, List.getElem?_take, List.getElem?_drop, Nat.add_zero, Nat.zero_lt_one, if_true, List.getElem?_cons_zero] at h2
    have h3 : cs[i]? = some (.int .u8 n) := by simpa [Value.cells] using h2
    rw [h3, U_def]
    have : (UInt8.ofNat n.toNat).toNat = n.toNat := by show n.toNat % 256 = _; omega
    rw [this]
    congr 2
    omega
  have hall : ∀ k, k ≤ 32 → ∃ l : List UInt8, l.length = k ∧ ∀ i (h : i < l.length), cs[i]? = some (U l[i]) := by
    intro k
    induction k with
    | zero => exact fun _ => ⟨[], rfl, fun i h => by simp at h⟩
    | succ k ih =>
      intro hk
      obtain ⟨l, hl, hi⟩ := ih (by omega)
      obtain ⟨b, hb⟩ := hcell k (by omega)
      refine ⟨l ++ [b], by simp [hl], fun i h => ?_⟩
      by_cases e : i < l.length
      · rw [List.getElem_append_left e]; exact hi i e
      · have : i = l.length := by simp at h; omega
        subst this
        simp [hl, hb]
  obtain ⟨l, hl, hi⟩ := hall 32 (Nat.le_refl _)
  refine ⟨l, hl, ?_⟩
  congr 1
  apply Array.ext_getElem?
  intro i
  by_cases hlt : i < 32
  · rw [hi i (by omega)]; simp [hl, hlt]
  · rw [Array.getElem?_eq_none (by omega), Array.getElem?_eq_none (by simp; omega)]
/-- Its reading hangs on no memory. -/
theorem keep_dig {b b' : Nat} {sp sp' : Nat → Bool} {hd hd' : Bool} {v : Value} {d : DataW H} {p : List MemPlace} (h : DataW.Trod enc Try.prog W b sp hd 25 v d p) : DataW.Trod enc Try.prog W' b' sp' hd' 25 v d p := by
  obtain ⟨fuel, hf⟩ := h
  refine ⟨fuel, ?_⟩
  rw [← hf]
  have inner : ∀ (m : Nat) (cs : List Value), DataW.trod enc Try.prog W' b' sp' hd' m 5 cs = DataW.trod enc Try.prog W b sp hd m 5 cs := by
    intro m cs
    cases m with
    | zero => rfl
    | succ m =>
      unfold DataW.trod
      rw [Try.underlying5]
      rcases cs with _ | ⟨v, _ | ⟨v2, r⟩⟩
      · rfl
      · cases v <;> rfl
      · cases v <;> rfl
  cases fuel with
  | zero => rfl
  | succ m => unfold DataW.trod; rw [Try.underlying25]; simp only [inner]
end
set_option maxRecDepth 100000 in
theorem orders_lifted (os : Os) (started : os.Started) (H : Type) (enc : TypeId × Value → H) :
    ReturnsInHanded {} Try.checked os 6 .any (Rows.nameOrdersSpec.pre6 enc Try.prog Try.f6 Rows.nameOrdersRow.domain false) (Rows.nameOrdersSpec.post enc Try.prog Try.f6 false true false false) := by
  refine returnsInHanded_of_change (C := Try.checked) own7 started (by kernel_rfl) Try.func6
    (ChangeSpec.witness6 (enc := enc) (C := Try.checked) false ⟨#[], #[.agg (zero32.map U).toArray, .agg (zero32.map U).toArray], []⟩ 8 (by kernel_rfl) (by kernel_rfl) (by kernel_rfl) (by kernel_rfl)) ?_
  intro W base args ds gs before hval0 hW _ _
  have hval : ∀ (j : Nat) t v, Try.f6.params[j]? = some t → args[j]? = some v → Value.okWide Try.prog W .any base t v := hval0
  have hW' := hW
  obtain ⟨p, q, hA0, hV, rfl, _, _⟩ := hW
  have hA : DataW.TrodAll enc Try.prog W 0 (fun _ => true) true Try.f6.params.toList args.toList ds p := hA0
  rw [Try.params6] at hA hval
  obtain ⟨v0, vs0, d0, ds0, p0, q0, hargs, rfl, rfl, h0, r0⟩ := trodAll_cons hA
  obtain ⟨v1, vs1, d1, ds1, p1, q1, rfl, rfl, rfl, h1, r1⟩ := trodAll_cons r0
  obtain ⟨rfl, rfl, rfl⟩ := trodAll_nil r1
  obtain rfl : args = #[v0, v1] := by cases args; simp_all
  obtain ⟨rfl, rfl⟩ := trodVars_none hV
  clear hA0 hval0
  simp only [List.append_nil] at hW'
  obtain ⟨la, ha, rfl⟩ := open_dig (hval 0 25 v0 rfl rfl) h0
  obtain ⟨lb, hb, rfl⟩ := open_dig (hval 1 25 v1 rfl rfl) h1
  refine (orders_walk W la lb ha hb).mono fun e W' ⟨he, hb⟩ => ?_
  subst he
  exact ⟨_, rfl, _, _, _, [], _, [], hW', trodAll_cons_mk (shut_bool Try.underlying4 _) trodAll_mk0, trodAll_cons_mk (keep_dig h0) (trodAll_cons_mk (keep_dig h1) trodAll_mk0), rfl, hb.frame _, fun h => by cases h⟩

theorem orders_said : Rows.NameOrdersSaid :=
  OpenClaim.holds_of_wide 6 Try.f6 rfl rfl rfl rfl rfl rfl rfl ⟨rfl, rfl, rfl, rfl, rfl⟩ rfl rfl rfl rfl rfl (by kernel_rfl) Try.func6 (by kernel_rfl)
    (of_decide_eq_true (by kernel_rfl)) (by unfold Func.isWrapper; first | (rw [if_pos (by decide +kernel)]; kernel_rfl) | (rw [if_neg (by decide +kernel)]; exact ⟨rfl, rfl⟩))
    (fun os started H enc _ => orders_lifted os started H enc)
end Go.Proofs.Ytekhnacgejfmjaa
