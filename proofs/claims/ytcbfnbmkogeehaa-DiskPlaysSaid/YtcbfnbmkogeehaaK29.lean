/- What the arguments hold: rows of acts, rows of Booleans. -/
import Derived.Test.YtcbfnbmkogeehaaK24
import Derived.Lib.SmallJoins
import Derived.SliceStrings
import Derived.ChangeSlices
import Derived.Deep.Slices
import Derived.Deep.Grids
import Derived.SizedLaws
import Derived.Carry
namespace Go.Proofs.Ytcbfnbmkogeehaa
open Go.ChangeShapes Go.WideShapes Go.ChangeAt Go.RowKit

theorem laidOut : laidOutB Try.prog = true := by kernel_rfl
theorem cells3 : Try.prog.cellsOf 3 = 1 := by kernel_rfl
theorem cells4 : Try.prog.cellsOf 4 = 1 := by kernel_rfl
theorem cells5 : Try.prog.cellsOf 5 = 1 := by kernel_rfl
theorem cells30 : Try.prog.cellsOf 30 = 1 := by kernel_rfl
theorem cells32 : Try.prog.cellsOf 32 = 4 := by kernel_rfl
theorem bounds_i64 {n : Int} (h : (Lit.int .i64 n).wf = true) : -9223372036854775808 ≤ n ∧ n ≤ 9223372036854775807 := by
  simp [Lit.wf, IntKind.min, IntKind.max, IntKind.signed, IntKind.bits] at h
  omega

section
variable {H : Type} {enc : TypeId × Value → H} {W : World} {base : Nat} {sp : Nat → Bool} {hd : Bool} {d : DataW H} {p : List MemPlace}
theorem list4 {cs : List Value} (h : cs.length = 4) : ∃ c0 c1 c2 c3, cs = [c0, c1, c2, c3] := by
  match cs, h with
  | [c0, c1, c2, c3], _ => exact ⟨c0, c1, c2, c3, rfl⟩
theorem act_cells {fuel : Nat} {cs : List Value} {x : DataW H × List MemPlace} (h : DataW.trod enc Try.prog W base sp hd fuel 32 cs = some x) :
    ∃ c0 k, ∃ b : UInt8, ∃ c3, cs = [c0, .int .i64 k, U b, c3] ∧ (-9223372036854775808 ≤ k ∧ k ≤ 9223372036854775807) ∧ c0.oneCell' = true ∧ c3.oneCell' = true := by
  obtain ⟨y0, y1, y2, y3, n, _, hl, h0, h1, h2, h3⟩ := Go.Joins.trod_struct4 Try.underlying32 h
  rw [cells32] at hl
  obtain ⟨c0, c1, c2, c3, rfl⟩ := list4 hl
  clear hl
  obtain ⟨n0, e0, _, w0⟩ := DataW.trod_int Try.underlying3 h0
  obtain ⟨n1, e1, _, w1⟩ := DataW.trod_int Try.underlying3 h1
  obtain ⟨n2, e2, _, w2⟩ := DataW.trod_int Try.underlying5 h2
  simp [cells3] at e0
  simp [cells3] at e1
  simp [cells5] at e2
  subst e0 e1 e2
  have hb := bounds_u8 w2
  have h3' : c3.oneCell' = true := by
    rcases Go.Deep.open_slice Try.underlying30 h3 with ⟨hcs, _⟩ | ⟨a, len, cap, m, k, D, Pl, hcs, _⟩
    · simp [cells30] at hcs
      subst hcs; rfl
    · simp [cells30] at hcs
      subst hcs; rfl
  refine ⟨.int .i64 n0, n1, UInt8.ofNat n2.toNat, c3, ?_, bounds_i64 w1, rfl, h3'⟩
  rw [U_def]
  have : (UInt8.ofNat n2.toNat).toNat = n2.toNat := by show n2.toNat % 256 = _; omega
  have e3 : ((n2.toNat : Nat) : Int) = n2 := by omega
  rw [this, e3]
theorem open_acts {A : Option Addr} {n c : Nat} (h : DataW.Trod enc Try.prog W base sp hd 22 (.slice A n c) d p) : ∃ l, Acts W A n l := by
  obtain ⟨fuel, hf⟩ := h
  rcases Go.Deep.open_slice Try.underlying22 hf with ⟨hcs, _⟩ | ⟨a, len, cap, m, k, D, Pl, hcs, _, hl, _, hm, _, hel⟩
  · simp [Value.cells] at hcs
    obtain ⟨rfl, rfl, rfl⟩ := hcs
    exact ⟨[], rfl, by simp, fun h => absurd h (by omega)⟩
  · simp [Value.cells] at hcs
    obtain ⟨rfl, rfl, rfl⟩ := hcs
    have hle : n ≤ m := by rw [hm]; split <;> omega
    have hone : ∀ i, i < n → ∃ q : Int × UInt8, (-9223372036854775808 ≤ q.1 ∧ q.1 ≤ 9223372036854775807) ∧ ∃ c0 c3, c0.oneCell' = true ∧ c3.oneCell' = true ∧ ∀ j v, [c0, .int .i64 q.1, U q.2, c3][j]? = some v → W.cell? ((a.add (i * 4)).add j) = some v := by
      intro i hi
      obtain ⟨cs', hc, ht⟩ := hel i (by omega)
      rw [cells32] at hc
      obtain ⟨c0, k1, b1, c3, rfl, hk, h0, h3⟩ := act_cells ht
      refine ⟨(k1, b1), hk, c0, c3, h0, h3, fun j v hv => ?_⟩
      unfold World.cells? at hc
      split at hc
      · have hj : j < 4 := by have := (List.getElem?_eq_some_iff.1 hv).1; simpa using this
        have := mapM_some_get hc j j (by simp [hj])
        rw [this, hv]
      · cases hc
    have hall : ∀ k, k ≤ n → ∃ l : List (Int × UInt8), l.length = k ∧ (∀ q ∈ l, -9223372036854775808 ≤ q.1 ∧ q.1 ≤ 9223372036854775807) ∧ ∀ i (h : i < l.length), ∃ c0 c3, c0.oneCell' = true ∧ c3.oneCell' = true ∧ ∀ j v, [c0, .int .i64 l[i].1, U l[i].2, c3][j]? = some v → W.cell? ((a.add (i * 4)).add j) = some v := by
      intro k
      induction k with
      | zero => exact fun _ => ⟨[], rfl, by simp, fun i h => by simp at h⟩
      | succ k ih =>
        intro hk
        obtain ⟨l, hl2, hb, hi⟩ := ih (by omega)
        obtain ⟨q, hq, hc⟩ := hone k (by omega)
        refine ⟨l ++ [q], by simp [hl2], fun r hr => ?_, fun i h => ?_⟩
        · rcases List.mem_append.1 hr with h1 | h1
          · exact hb r h1
          · obtain rfl := List.mem_singleton.1 h1; exact hq
        · by_cases e : i < l.length
          · rw [List.getElem_append_left e]; exact hi i e
          · have hik : i = l.length := by simp at h; omega
            subst hik
            simp only [List.getElem_append_right (Nat.le_refl _), Nat.sub_self, List.getElem_cons_zero]
            rw [hl2]
            exact hc
    obtain ⟨l, hl2, hb, hc⟩ := hall n (Nat.le_refl _)
    refine ⟨l, hl2.symm, hb, fun h0 => ?_⟩
    have hd0 : 0 < l.length := by omega
    obtain ⟨c0, c3, _, _, hc0⟩ := hc 0 hd0
    have h00 := hc0 0 c0 rfl
    obtain ⟨b, off, spot⟩ := a
    have hspot : spot = none := by simpa [Addr.add] using World.cell?_spot h00
    subst hspot
    have hadd : ∀ f i, (⟨b, f, none⟩ : Addr).add i = ⟨b, f + i, none⟩ := fun f i => by unfold Addr.add; split <;> simp_all
    refine ⟨b, off, rfl, ?_, fun i hi => ?_⟩
    · have := World.block_lt_of_cell? W _ h00
      rw [hadd, hadd] at this
      exact this
    · obtain ⟨d0, d3, e0, e3, hcs2⟩ := hc i hi
      refine ⟨d0, d3, e0, e3, fun j v hv => ?_⟩
      have := hcs2 j v hv
      rw [hadd, hadd] at this
      exact this
theorem open_kept {A : Option Addr} {n c : Nat} (h : DataW.Trod enc Try.prog W base (fun _ => true) hd 30 (.slice A n c) d p) :
    ∃ kb : List Bool, n = kb.length ∧ (0 < n → ∃ b o, A = some ⟨b, o, none⟩ ∧ b < W.heap.size ∧ ∀ i (h : i < kb.length), W.cell? ⟨b, o + i, none⟩ = some (.bool kb[i])) := by
  obtain ⟨fuel, hf⟩ := h
  rcases Go.Deep.open_bools Try.underlying30 Try.underlying4 cells4 hf with ⟨hcs, _⟩ | ⟨a, len, cap, B, hcs, _, hl, _, _, hcell⟩
  · simp [Value.cells] at hcs
    obtain ⟨rfl, rfl, rfl⟩ := hcs
    exact ⟨[], rfl, fun h => absurd h (by omega)⟩
  · simp [Value.cells] at hcs
    obtain ⟨rfl, rfl, rfl⟩ := hcs
    refine ⟨(List.range n).map B, by simp, fun h0 => ?_⟩
    have h00 := hcell 0 (by omega)
    obtain ⟨b, off, spot⟩ := a
    have hspot : spot = none := by simpa [Addr.add] using World.cell?_spot h00
    subst hspot
    have hadd : ∀ i, (⟨b, off, none⟩ : Addr).add i = ⟨b, off + i, none⟩ := fun i => by unfold Addr.add; split <;> simp_all
    refine ⟨b, off, rfl, ?_, fun i hi => ?_⟩
    · have := World.block_lt_of_cell? W _ h00
      rw [hadd] at this
      exact this
    · have hin : i < n := by simpa using hi
      have := hcell i (by omega)
      rw [hadd] at this
      simpa using this
end
end Go.Proofs.Ytcbfnbmkogeehaa
