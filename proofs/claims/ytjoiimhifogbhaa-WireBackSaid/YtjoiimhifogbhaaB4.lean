/- What the arguments hold: rows of numbers, of texts, of digests. -/
import Derived.Test.YtjoiimhifogbhaaB3
import Derived.Test.YtjoiimhifogbhaaN1
import Derived.SliceStrings
import Derived.ChangeSlices
import Derived.Deep.Slices
import Derived.SizedLaws
import Derived.Carry
namespace Go.Proofs.Ytjoiimhifogbhaa
open Go.ChangeShapes Go.WideShapes Go.ChangeAt Go.RowKit

theorem laidOut : laidOutB Try.prog = true := by kernel_rfl
theorem cells5 : Try.prog.cellsOf 5 = 1 := by kernel_rfl
theorem cells9 : Try.prog.cellsOf 9 = 1 := by kernel_rfl
theorem cells28 : Try.prog.cellsOf 28 = 1 := by kernel_rfl
theorem cells30 : Try.prog.cellsOf 30 = 1 := by kernel_rfl
theorem cells33 : Try.prog.cellsOf 33 = 32 := by kernel_rfl
theorem bounds_u32 {n : Int} (h : (Lit.int .u32 n).wf = true) : 0 ≤ n ∧ n ≤ 4294967295 := by
  simp [Lit.wf, IntKind.min, IntKind.max, IntKind.signed, IntKind.bits] at h
  omega
theorem bounds_u64 {n : Int} (h : (Lit.int .u64 n).wf = true) : 0 ≤ n ∧ n ≤ 18446744073709551615 := by
  simp [Lit.wf, IntKind.min, IntKind.max, IntKind.signed, IntKind.bits] at h
  omega
theorem row_of_cells {w : World} {a : Addr} {len : Nat} {vs : List Value} (hl : len = vs.length) (hc : ∀ i (h : i < vs.length), w.cell? (a.add i) = some vs[i]) : Row w (some a) len vs := by
  refine ⟨hl, fun h0 => ?_⟩
  obtain ⟨b, off, spot⟩ := a
  have h00 := hc 0 (by omega)
  have hspot : spot = none := by simpa [Addr.add] using World.cell?_spot h00
  subst hspot
  have hadd : ∀ i, (⟨b, off, none⟩ : Addr).add i = ⟨b, off + i, none⟩ := fun i => by unfold Addr.add; split <;> simp_all
  refine ⟨b, off, rfl, ?_, fun i hi => by rw [← hadd]; exact hc i hi⟩
  have := World.block_lt_of_cell? w _ h00
  rw [hadd] at this
  exact this

section
variable {H : Type} {enc : TypeId × Value → H} {W : World} {base : Nat} {sp : Nat → Bool} {hd : Bool} {d : DataW H} {p : List MemPlace}
theorem open_row4 {A : Option Addr} {n c : Nat} (h : DataW.Trod enc Try.prog W base sp hd 22 (.slice A n c) d p) : ∃ ns : List Nat, Row W A n (ns.map V4) ∧ ∀ x ∈ ns, x < 4294967296 := by
  obtain ⟨fuel, hf⟩ := h
  rcases open_ints Try.underlying22 Try.underlying28 cells28 hf with ⟨hcs, _⟩ | ⟨a, len, cap, zs, hcs, _, hl, _, hz, _, hcell, hwz⟩
  · simp [Value.cells] at hcs
    obtain ⟨rfl, rfl, rfl⟩ := hcs
    exact ⟨[], Row.empty _ _, by simp⟩
  · simp [Value.cells] at hcs
    obtain ⟨rfl, rfl, rfl⟩ := hcs
    have hle : n ≤ zs.length := by rw [hz]; split <;> omega
    refine ⟨(zs.take n).map Int.toNat, row_of_cells (by simp; omega) (fun i hi => ?_), fun x hx => ?_⟩
    · have hin : i < n := by simp at hi; omega
      have hiz : i < zs.length := by omega
      rw [hcell i hiz]
      have hb := bounds_u32 (hwz zs[i] (List.getElem_mem hiz))
      simp [V4, List.getD, hiz]
      omega
    · obtain ⟨z, hz', rfl⟩ := List.mem_map.1 hx
      have hb := bounds_u32 (hwz z (List.mem_of_mem_take hz'))
      omega
theorem open_row8 {A : Option Addr} {n c : Nat} (h : DataW.Trod enc Try.prog W base sp hd 23 (.slice A n c) d p) : ∃ ns : List Nat, Row W A n (ns.map V8) ∧ ∀ x ∈ ns, x < 18446744073709551616 := by
  obtain ⟨fuel, hf⟩ := h
  rcases open_ints Try.underlying23 Try.underlying30 cells30 hf with ⟨hcs, _⟩ | ⟨a, len, cap, zs, hcs, _, hl, _, hz, _, hcell, hwz⟩
  · simp [Value.cells] at hcs
    obtain ⟨rfl, rfl, rfl⟩ := hcs
    exact ⟨[], Row.empty _ _, by simp⟩
  · simp [Value.cells] at hcs
    obtain ⟨rfl, rfl, rfl⟩ := hcs
    have hle : n ≤ zs.length := by rw [hz]; split <;> omega
    refine ⟨(zs.take n).map Int.toNat, row_of_cells (by simp; omega) (fun i hi => ?_), fun x hx => ?_⟩
    · have hin : i < n := by simp at hi; omega
      have hiz : i < zs.length := by omega
      rw [hcell i hiz]
      have hb := bounds_u64 (hwz zs[i] (List.getElem_mem hiz))
      simp [V8, List.getD, hiz]
      omega
    · obtain ⟨z, hz', rfl⟩ := List.mem_map.1 hx
      have hb := bounds_u64 (hwz z (List.mem_of_mem_take hz'))
      omega
theorem open_rowS {A : Option Addr} {n c : Nat} (h : DataW.Trod enc Try.prog W base sp hd 24 (.slice A n c) d p) : ∃ ps : List ByteArray, Row W A n (ps.map Value.string) ∧ ∀ x ∈ ps, x.size ≤ maxLen := by
  obtain ⟨fuel, hf⟩ := h
  rcases open_strings Try.underlying24 Try.underlying9 cells9 hf with ⟨hcs, _⟩ | ⟨a, len, cap, ss, hcs, _, hl, _, hz, _, hcell, hws⟩
  · simp [Value.cells] at hcs
    obtain ⟨rfl, rfl, rfl⟩ := hcs
    exact ⟨[], Row.empty _ _, by simp⟩
  · simp [Value.cells] at hcs
    obtain ⟨rfl, rfl, rfl⟩ := hcs
    have hle : n ≤ ss.length := by rw [hz]; split <;> omega
    refine ⟨ss.take n, row_of_cells (by simp; omega) (fun i hi => ?_), fun x hx => hws x (List.mem_of_mem_take hx)⟩
    have hin : i < n := by simp at hi; omega
    have hiz : i < ss.length := by omega
    rw [hcell i hiz]
    simp [List.getD, hiz]
/-- Cells that read as a digest: 32 bytes. -/
theorem dig_cells {fuel : Nat} {cs : List Value} {x : DataW H × List MemPlace} (h : DataW.trod enc Try.prog W base sp hd fuel 33 cs = some x) : ∃ l : List UInt8, l.length = 32 ∧ cs = l.map U := by
  obtain ⟨xs, m, _, _, hcl, hxl, hx⟩ := DataW.trod_array Try.underlying33 h
  rw [cells33] at hcl
  have hcell : ∀ i, i < 32 → ∃ b : UInt8, cs[i]? = some (U b) := by
    intro i hi
    have h1 := hx i hi
    rw [List.getElem?_eq_getElem (by omega)] at h1
    obtain ⟨n, hc, _, hwf⟩ := DataW.trod_int Try.underlying5 h1
    have hb := bounds_u8 hwf
    refine ⟨UInt8.ofNat n.toNat, ?_⟩
    have h2 := congrArg (fun l => l[0]?) hc
    simp only [cells5, Nat.mul_one, List.getElem?_take, List.getElem?_drop, Nat.add_zero, Nat.zero_lt_one, if_true, List.getElem?_cons_zero] at h2
    have h3 : cs[i]? = some (.int .u8 n) := by simpa [Value.cells] using h2
    rw [h3, U_def]
    have : (UInt8.ofNat n.toNat).toNat = n.toNat := by show n.toNat % 256 = _; omega
    rw [this]
    congr 2
    omega
  have hall : ∀ k, k ≤ 32 → ∃ l : List UInt8, l.length = k ∧ ∀ i (h : i < l.length), cs[i]? = some (U l[i]) := by
    intro k
    induction k with
    | zero => exact fun _ => ⟨[], rfl, fun i h => by simp at h⟩
    | succ k ih =>
      intro hk
      obtain ⟨l, hl, hi⟩ := ih (by omega)
      obtain ⟨b, hb⟩ := hcell k (by omega)
      refine ⟨l ++ [b], by simp [hl], fun i h => ?_⟩
      by_cases e : i < l.length
      · rw [List.getElem_append_left e]; exact hi i e
      · have : i = l.length := by simp at h; omega
        subst this
        simp [hl, hb]
  obtain ⟨l, hl, hi⟩ := hall 32 (Nat.le_refl _)
  refine ⟨l, hl, ?_⟩
  apply List.ext_getElem?
  intro i
  by_cases hlt : i < 32
  · rw [hi i (by omega)]; simp [hl, hlt]
  · rw [List.getElem?_eq_none (by omega), List.getElem?_eq_none (by simp; omega)]
theorem open_rowD {A : Option Addr} {n c : Nat} (h : DataW.Trod enc Try.prog W base sp hd 25 (.slice A n c) d p) : ∃ ds : List (List UInt8), Digs W A n ds := by
  obtain ⟨fuel, hf⟩ := h
  rcases Go.Deep.open_slice Try.underlying25 hf with ⟨hcs, _⟩ | ⟨a, len, cap, m, k, D, Pl, hcs, _, hl, _, hm, _, hel⟩
  · simp [Value.cells] at hcs
    obtain ⟨rfl, rfl, rfl⟩ := hcs
    exact ⟨[], rfl, by simp, fun h => absurd h (by omega)⟩
  · simp [Value.cells] at hcs
    obtain ⟨rfl, rfl, rfl⟩ := hcs
    have hle : n ≤ m := by rw [hm]; split <;> omega
    have hone : ∀ i, i < n → ∃ l : List UInt8, l.length = 32 ∧ ∀ j v, (l.map U)[j]? = some v → W.cell? ((a.add (i * 32)).add j) = some v := by
      intro i hi
      obtain ⟨cs', hc, ht⟩ := hel i (by omega)
      rw [cells33] at hc
      obtain ⟨l, hl32, rfl⟩ := dig_cells ht
      refine ⟨l, hl32, fun j v hv => ?_⟩
      unfold World.cells? at hc
      split at hc
      · have hj : j < 32 := by have := (List.getElem?_eq_some_iff.1 hv).1; simpa [hl32] using this
        have := mapM_some_get hc j j (by simp [hj])
        rw [this, hv]
      · cases hc
    have hall : ∀ k, k ≤ n → ∃ ds : List (List UInt8), ds.length = k ∧ (∀ d ∈ ds, d.length = 32) ∧ ∀ i (h : i < ds.length) j v, (ds[i].map U)[j]? = some v → W.cell? ((a.add (i * 32)).add j) = some v := by
      intro k
      induction k with
      | zero => exact fun _ => ⟨[], rfl, by simp, fun i h => by simp at h⟩
      | succ k ih =>
        intro hk
        obtain ⟨ds, hl, h32, hi⟩ := ih (by omega)
        obtain ⟨l, hl32, hc⟩ := hone k (by omega)
        refine ⟨ds ++ [l], by simp [hl], fun d hd => ?_, fun i h j v hv => ?_⟩
        · rcases List.mem_append.1 hd with h1 | h1
          · exact h32 d h1
          · obtain rfl := List.mem_singleton.1 h1; exact hl32
        · by_cases e : i < ds.length
          · rw [List.getElem_append_left e] at hv; exact hi i e j v hv
          · have hik : i = ds.length := by simp at h; omega
            subst hik
            rw [List.getElem_append_right (Nat.le_refl _)] at hv
            simp at hv
            rw [hl]
            exact hc j v (by simpa using hv)
    obtain ⟨ds, hl2, h32, hc⟩ := hall n (Nat.le_refl _)
    refine ⟨ds, hl2.symm, h32, fun h0 => ?_⟩
    have hd0 : 0 < ds.length := by omega
    have h00 := hc 0 hd0 0 (U (ds[0].getD 0 0)) (by
      have := h32 _ (List.getElem_mem hd0)
      simp [List.getD, show 0 < ds[0].length by omega])
    obtain ⟨b, off, spot⟩ := a
    have hspot : spot = none := by simpa [Addr.add] using World.cell?_spot h00
    subst hspot
    have hadd : ∀ f i, (⟨b, f, none⟩ : Addr).add i = ⟨b, f + i, none⟩ := fun f i => by unfold Addr.add; split <;> simp_all
    refine ⟨b, off, rfl, ?_, fun i hi j v hv => ?_⟩
    · have := World.block_lt_of_cell? W _ h00
      rw [hadd, hadd] at this
      exact this
    · have := hc i hi j v hv
      rw [hadd, hadd] at this
      exact this
end
end Go.Proofs.Ytjoiimhifogbhaa
