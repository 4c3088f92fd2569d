/- The statement on the first run: for every number of sectors, every row of runs and every length the call returns true, and they read as before. -/
import Derived.Test.YtoeniealmcihmaaPh
import Derived.Test.YtoeniealmcihmaaPg
import Derived.Lib.SmallJoins
import Derived.Deep.Slices
namespace Go.Proofs.Ytoeniealmcihmaa
open Go.ChangeShapes Go.WideShapes Go.ChangeAt Go.RowKit

theorem cells3 : Try.prog.cellsOf 3 = 1 := by kernel_rfl
theorem cells33 : Try.prog.cellsOf 33 = 2 := by kernel_rfl
section
variable {H : Type} {enc : TypeId × Value → H} {W : World} {base : Nat} {sp : Nat → Bool} {hd : Bool} {d : DataW H} {p : List MemPlace}
theorem list2 {cs : List Value} (h : cs.length = 2) : ∃ c0 c1, cs = [c0, c1] := by
  match cs, h with
  | [c0, c1], _ => exact ⟨c0, c1, rfl⟩
theorem run_cells {fuel : Nat} {cs : List Value} {x : DataW H × List MemPlace} (h : DataW.trod enc Try.prog W base sp hd fuel 33 cs = some x) :
    ∃ a b, cs = [.int .i64 a, .int .i64 b] ∧ b ≤ 9223372036854775807 := by
  obtain ⟨y0, y1, n, _, hl, h0, h1⟩ := trod_struct2 Try.underlying33 h
  rw [cells33] at hl
  obtain ⟨c0, c1, rfl⟩ := list2 hl
  clear hl
  obtain ⟨n0, e0, _, w0⟩ := DataW.trod_int Try.underlying3 h0
  obtain ⟨n1, e1, _, w1⟩ := DataW.trod_int Try.underlying3 h1
  simp [cells3] at e0
  simp [cells3] at e1
  subst e0 e1
  exact ⟨n0, n1, rfl, (bounds_i64 w1).2⟩
theorem open_runs {A : Option Addr} {n c : Nat} (h : DataW.Trod enc Try.prog W base sp hd 28 (.slice A n c) d p) : ∃ l, RunsAt W A n l := by
  obtain ⟨fuel, hf⟩ := h
  rcases Go.Deep.open_slice Try.underlying28 hf with ⟨hcs, _⟩ | ⟨a, len, cap, m, k, D, Pl, hcs, _, hl, _, hm, _, hel⟩
  · simp [Value.cells] at hcs
    obtain ⟨rfl, rfl, rfl⟩ := hcs
    exact ⟨[], rfl, by simp, fun h => absurd h (by omega)⟩
  · simp [Value.cells] at hcs
    obtain ⟨rfl, rfl, rfl⟩ := hcs
    have hle : n ≤ m := by rw [hm]; split <;> omega
    have hone : ∀ i, i < n → ∃ q : Int × Int, q.2 ≤ 9223372036854775807 ∧ ∀ j v, [Value.int .i64 q.1, .int .i64 q.2][j]? = some v → W.cell? ((a.add (i * 2)).add j) = some v := by
      intro i hi
      obtain ⟨cs', hc, ht⟩ := hel i (by omega)
      rw [cells33] at hc
      obtain ⟨k1, b1, rfl, hk⟩ := run_cells ht
      refine ⟨(k1, b1), hk, fun j v hv => ?_⟩
      unfold World.cells? at hc
      split at hc
      · have hj : j < 2 := by have := (List.getElem?_eq_some_iff.1 hv).1; simpa using this
        have := mapM_some_get hc j j (by simp [hj])
        rw [this, hv]
      · cases hc
    have hall : ∀ k, k ≤ n → ∃ l : List (Int × Int), l.length = k ∧ (∀ q ∈ l, q.2 ≤ 9223372036854775807) ∧ ∀ i (h : i < l.length), ∀ j v, [Value.int .i64 l[i].1, .int .i64 l[i].2][j]? = some v → W.cell? ((a.add (i * 2)).add j) = some v := by
      intro k
      induction k with
      | zero => exact fun _ => ⟨[], rfl, by simp, fun i h => by simp at h⟩
      | succ k ih =>
        intro hk
        obtain ⟨l, hl2, hb, hi⟩ := ih (by omega)
        obtain ⟨q, hq, hc⟩ := hone k (by omega)
        refine ⟨l ++ [q], by simp [hl2], fun r hr => ?_, fun i h => ?_⟩
        · rcases List.mem_append.1 hr with h1 | h1
          · exact hb r h1
          · obtain rfl := List.mem_singleton.1 h1; exact hq
        · by_cases e : i < l.length
          · rw [List.getElem_append_left e]; exact hi i e
          · have hik : i = l.length := by simp at h; omega
            subst hik
            simp only [List.getElem_append_right (Nat.le_refl _), Nat.sub_self, List.getElem_cons_zero]
            rw [hl2]
            exact hc
    obtain ⟨l, hl2, hb, hc⟩ := hall n (Nat.le_refl _)
    refine ⟨l, hl2.symm, hb, fun h0 => ?_⟩
    have hd0 : 0 < l.length := by omega
    have h00 := hc 0 hd0 0 _ rfl
    obtain ⟨b, off, spot⟩ := a
    have hspot : spot = none := by simpa [Addr.add] using World.cell?_spot h00
    subst hspot
    have hadd : ∀ f i, (⟨b, f, none⟩ : Addr).add i = ⟨b, f + i, none⟩ := fun f i => by unfold Addr.add; split <;> simp_all
    refine ⟨b, off, rfl, ?_, fun i hi => ?_⟩
    · have := World.block_lt_of_cell? W _ h00
      rw [hadd, hadd] at this
      exact this
    · have h1 := hc i hi 0 _ rfl
      have h2 := hc i hi 1 _ rfl
      rw [hadd, hadd] at h1 h2
      exact ⟨h1, h2⟩
end
theorem first_many (w : World) (n k : Int) (A : Option Addr) (m c : Nat) (hm : 10 < m) :
    Calls Try.prog 5 #[.int .u8 n, .slice A m c, .int .u8 k] w fun e w' => e = .returned (.bool true) ∧ Below w.heap.size w w' := by
  have hm' : (10 : Int) < (m : Int) := by omega
  go_enter Try.func5, Try.ntmps5
  go_wp2_with (go_at_call 6; refine (awake_walk _).mono ?_; rintro e w1 ⟨rfl, hb1⟩; have HB := Lib.hid hb1; clear hb1)
  go_ret
  exact ⟨rfl, HB.out⟩
theorem bounds_u8 {n : Int} (h : (Lit.int .u8 n).wf = true) : 0 ≤ n ∧ n ≤ 255 := by
  simp [Lit.wf, IntKind.min, IntKind.max, IntKind.signed, IntKind.bits] at h
  omega
theorem to_u8 {n : Int} (h : 0 ≤ n ∧ n ≤ 255) : ∃ b : UInt8, n = (b.toNat : Int) := ⟨UInt8.ofNat n.toNat, by
  have : (UInt8.ofNat n.toNat).toNat = n.toNat := by show n.toNat % 256 = _; omega
  rw [this]; omega⟩

set_option maxRecDepth 100000 in
theorem first_lifted (os : Os) (started : os.Started) (H : Type) (enc : TypeId × Value → H) :
    ReturnsInHanded {} Try.checked os 5 .any (Rows.spaceFirstSpec.pre6 enc Try.prog Try.f5 Rows.spaceFirstRow.domain false) (Rows.spaceFirstSpec.post enc Try.prog Try.f5 false true false false) := by
  refine returnsInHanded_of_change (C := Try.checked) own started (by kernel_rfl) Try.func5
    (ChangeSpec.witness6 (enc := enc) (C := Try.checked) false ⟨#[], #[.int .u8 0, .slice none 0 0, .int .u8 0], []⟩ 8 (by kernel_rfl) (by kernel_rfl) (by kernel_rfl) (by kernel_rfl)) ?_
  intro W base args ds gs before hval0 hW _ _
  have hval : ∀ (j : Nat) t v, Try.f5.params[j]? = some t → args[j]? = some v → Value.okWide Try.prog W .any base t v := hval0
  have hW' := hW
  obtain ⟨p, q, hA0, hV, rfl, _, _⟩ := hW
  have hA : DataW.TrodAll enc Try.prog W 0 (fun _ => true) true Try.f5.params.toList args.toList ds p := hA0
  rw [Try.params5] at hA hval
  obtain ⟨v0, vs0, d0, ds0, p0, q0, hargs, rfl, rfl, h0, r0⟩ := trodAll_cons hA
  obtain ⟨v1, vs1, d1, ds1, p1, q1, rfl, rfl, rfl, h1, r1⟩ := trodAll_cons r0
  obtain ⟨v2, vs2, d2, ds2, p2, q2, rfl, rfl, rfl, h2, r2⟩ := trodAll_cons r1
  obtain ⟨rfl, rfl, rfl⟩ := trodAll_nil r2
  obtain rfl : args = #[v0, v1, v2] := by cases args; simp_all
  obtain ⟨rfl, rfl⟩ := trodVars_none hV
  clear hA0 hval0
  simp only [List.append_nil] at hW'
  obtain ⟨x, rfl, rfl, rfl, wx⟩ := open_int Try.underlying5 (hval 0 5 v0 rfl rfl) h0
  obtain ⟨a1, l1, c1, rfl⟩ := okWide_slice Try.underlying28 (hval 1 28 v1 rfl rfl)
  obtain ⟨y, rfl, rfl, rfl, wy⟩ := open_int Try.underlying5 (hval 2 5 v2 rfl rfl) h2
  obtain ⟨l, hl⟩ := open_runs h1
  obtain ⟨bx, rfl⟩ := to_u8 (bounds_u8 wx)
  obtain ⟨bk, rfl⟩ := to_u8 (bounds_u8 wy)
  have hlt : ∀ x ∈ ([] : List MemPlace) ++ (p1 ++ []), x.block < W.heap.size := fun x hx => by simpa using hW'.lt x (by simpa using hx)
  have hc : Calls Try.prog 5 #[.int .u8 (bx.toNat : Int), .slice a1 l1 c1, .int .u8 (bk.toNat : Int)] W fun e w' => e = .returned (.bool true) ∧ Below W.heap.size W w' := by
    by_cases h : l1 ≤ 10
    · exact first_walk W bx bk a1 l1 c1 l hl h
    · exact first_many W _ _ a1 l1 c1 (by omega)
  refine hc.mono fun e W' ⟨he, hb⟩ => ?_
  subst he
  have hk : ∀ (t : TypeId) (v : Value) (d : DataW H) (pl : List MemPlace), (∀ x ∈ pl, x.block < W.heap.size) → Try.prog.readableRec t = true → t < Try.prog.types.size → DataW.Trod enc Try.prog W 0 (fun _ => true) true t v d pl →
      DataW.Trod enc Try.prog W' 0 (fun b => decide (b < W.heap.size)) true t v d pl := fun t v d pl hl hr hts h => Below.trod laidOut hr hts h hb hl
  exact ⟨_, rfl, _, _, _, [], _, [], hW', trodAll_cons_mk (shut_bool Try.underlying4 _) trodAll_mk0, trodAll_cons_mk (shut_int Try.underlying5 wx) (trodAll_cons_mk (hk 28 _ _ _ (fun x hx => hlt x (by simp [hx])) (by kernel_rfl) (of_decide_eq_true (by kernel_rfl)) h1) (trodAll_cons_mk (shut_int Try.underlying5 wy) trodAll_mk0)), rfl, hb.frame _, fun h => by cases h⟩

theorem first_said : Rows.SpaceFirstSaid :=
  OpenClaim.holds_of_wide 5 Try.f5 rfl rfl rfl rfl rfl rfl rfl ⟨rfl, rfl, rfl, rfl, rfl⟩ rfl rfl rfl rfl rfl (by kernel_rfl) Try.func5 (by kernel_rfl)
    (of_decide_eq_true (by kernel_rfl)) (by unfold Func.isWrapper; first | (rw [if_pos (by decide +kernel)]; kernel_rfl) | (rw [if_neg (by decide +kernel)]; exact ⟨rfl, rfl⟩))
    (fun os started H enc _ => first_lifted os started H enc)
end Go.Proofs.Ytoeniealmcihmaa
