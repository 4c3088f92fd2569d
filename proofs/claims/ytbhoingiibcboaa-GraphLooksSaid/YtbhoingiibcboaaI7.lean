/- What a graph that is handed in holds. -/
import Derived.Test.YtbhoingiibcboaaI6
import Derived.Test.YtbhoingiibcboaaRows
import Derived.ProofKit
import Derived.OpenShut
import Derived.Carry
import Derived.SizedLaws
import Derived.Lib.SmallJoins
import Derived.Deep.Slices
import Derived.Deep.Fields
namespace Go.Proofs.Ytbhoingiibcboaa
open Go.ChangeShapes Go.WideShapes Go.ChangeAt Go.RowKit Go.Deep Go.Joins

theorem own : ownKnob Try.prog.godebug = none := by kernel_rfl
theorem laidOut : laidOutB Try.prog = true := by kernel_rfl
theorem bounds_u32 {n : Int} (h : (Lit.int .u32 n).wf = true) : 0 ≤ n ∧ n ≤ 4294967295 := by
  simp [Lit.wf, IntKind.min, IntKind.max, IntKind.signed, IntKind.bits] at h
  omega
theorem to_u32 {n : Int} (h : 0 ≤ n ∧ n ≤ 4294967295) : ∃ b : UInt32, Value.int .u32 n = V b ∧ n = (b.toNat : Int) := ⟨UInt32.ofNat n.toNat, by
  have : (UInt32.ofNat n.toNat).toNat = n.toNat := by show n.toNat % 4294967296 = _; omega
  rw [V_def, this]
  constructor
  · congr 1; omega
  · omega⟩
theorem cells31 : Try.prog.cellsOf 31 = 1 := by kernel_rfl
theorem cells39 : Try.prog.cellsOf 39 = 3 := by kernel_rfl
section
variable {H : Type} {enc : TypeId × Value → H} {W : World} {base : Nat} {sp : Nat → Bool} {hd : Bool}
theorem open_row1 {fuel : Nat} {v : Value} {x : DataW H × List MemPlace} (h : DataW.trod enc Try.prog W base sp hd fuel 22 [v] = some x) :
    ∃ A n c, v = .slice A n c ∧ (n ≤ 1000000 → ∃ l : List UInt32, n = l.length ∧ n ≤ c ∧ Rd W A l) := by
  rcases Go.Deep.open_slice1 Try.underlying22 cells31 h with ⟨hcs, _⟩ | ⟨a, len, cap, m, k, Vf, D, Pl, hcs, _, hl, hx, hm, _, hel⟩
  · simp at hcs
    exact ⟨none, 0, 0, hcs, fun _ => ⟨[], rfl, Nat.le_refl _, Rd.nil _ _⟩⟩
  · simp at hcs
    refine ⟨some a, len, cap, hcs, fun hn => ?_⟩
    have hle : len ≤ m := by rw [hm]; split <;> omega
    have hone : ∀ i, i < len → ∃ x : UInt32, W.cell? (a.add i) = some (V x) := by
      intro i hi
      obtain ⟨h1, h2⟩ := hel i (by omega)
      obtain ⟨n0, e0, _, w0⟩ := DataW.trod_int Try.underlying31 h2
      have e1 : Vf i = .int .u32 n0 := by simpa using e0
      obtain ⟨x, hx, _⟩ := to_u32 (bounds_u32 w0)
      exact ⟨x, by rw [h1, e1, hx]⟩
    have hall : ∀ k, k ≤ len → ∃ l : List UInt32, l.length = k ∧ ∀ i (h : i < l.length), W.cell? (a.add i) = some (V l[i]) := by
      intro k
      induction k with
      | zero => exact fun _ => ⟨[], rfl, fun i h => by simp at h⟩
      | succ k ih =>
        intro hk
        obtain ⟨l, hl2, hi⟩ := ih (by omega)
        obtain ⟨x, hx⟩ := hone k (by omega)
        refine ⟨l ++ [x], by simp [hl2], fun i h => ?_⟩
        by_cases e : i < l.length
        · rw [List.getElem_append_left e]; exact hi i e
        · have hik : i = l.length := by simp at h; omega
          subst hik
          simp only [List.getElem_append_right (Nat.le_refl _), Nat.sub_self, List.getElem_cons_zero]
          rw [hl2]
          exact hx
    obtain ⟨l, hl2, hc⟩ := hall len (Nat.le_refl _)
    refine ⟨l, hl2.symm, hl, by omega, fun h0 => ?_⟩
    have h00 := hc 0 h0
    obtain ⟨b, off, spot⟩ := a
    have hspot : spot = none := by simpa [Addr.add] using World.cell?_spot h00
    subst hspot
    refine ⟨b, off, rfl, ?_, fun i hi => ?_⟩
    · have := World.block_lt_of_cell? W _ h00
      rw [addr_add] at this
      exact this
    · have h1 := hc i hi
      rw [addr_add] at h1
      exact h1
theorem open_w {fuel : Nat} {c0 : Value} {y : Option (DataW H × List MemPlace)} {t : TypeId} (ht : t = 31) (h : DataW.trod enc Try.prog W base sp hd fuel t [c0] = y) (hy : y.isSome = true) : ∃ b : UInt32, c0 = V b := by
  subst ht
  obtain ⟨x, rfl⟩ := Option.isSome_iff_exists.1 hy
  obtain ⟨n0, e0, _, w0⟩ := DataW.trod_int Try.underlying31 h
  obtain ⟨b, hb, _⟩ := to_u32 (bounds_u32 w0)
  exact ⟨b, by rw [← hb]; simpa using e0⟩
set_option maxRecDepth 100000 in
theorem open_eg {fuel : Nat} {cs : List Value} {x : DataW H × List MemPlace} (h : DataW.trod enc Try.prog W base sp hd fuel 39 cs = some x) (hl : cs.length = 3) : ∃ e : Eg, cs = [V e.id, V e.a, V e.b] := by
  obtain ⟨ys, n, _, _, _, hyl, hf⟩ := DataW.trod_struct Try.underlying39 h
  match cs, hl with
  | [c0, c1, c2], _ =>
    have k0 : DataW.trod enc Try.prog W base sp hd n 31 (List.take (Try.prog.cellsOf 31) (List.drop 0 [c0, c1, c2])) = ys[0]? := hf 0 _ rfl
    have k1 : DataW.trod enc Try.prog W base sp hd n 31 (List.take (Try.prog.cellsOf 31) (List.drop 1 [c0, c1, c2])) = ys[1]? := hf 1 _ rfl
    have k2 : DataW.trod enc Try.prog W base sp hd n 31 (List.take (Try.prog.cellsOf 31) (List.drop 2 [c0, c1, c2])) = ys[2]? := hf 2 _ rfl
    rw [cells31] at k0 k1 k2
    have hs : ys.length = 3 := hyl
    obtain ⟨b0, rfl⟩ := open_w rfl k0 (by rw [List.getElem?_eq_getElem (by omega)]; rfl)
    obtain ⟨b1, rfl⟩ := open_w rfl k1 (by rw [List.getElem?_eq_getElem (by omega)]; rfl)
    obtain ⟨b2, rfl⟩ := open_w rfl k2 (by rw [List.getElem?_eq_getElem (by omega)]; rfl)
    exact ⟨⟨b0, b1, b2⟩, rfl⟩
theorem open_rowe {fuel : Nat} {v : Value} {x : DataW H × List MemPlace} (h : DataW.trod enc Try.prog W base sp hd fuel 23 [v] = some x) :
    ∃ A n c, v = .slice A n c ∧ (n ≤ 1000000 → ∃ l : List Eg, n = l.length ∧ n ≤ c ∧ RdE W A l) := by
  rcases Go.Deep.open_slice Try.underlying23 h with ⟨hcs, _⟩ | ⟨a, len, cap, m, k, D, Pl, hcs, _, hl, _, hm, _, hel⟩
  · simp at hcs
    exact ⟨none, 0, 0, hcs, fun _ => ⟨[], rfl, Nat.le_refl _, RdE.nil _ _⟩⟩
  · simp at hcs
    refine ⟨some a, len, cap, hcs, fun hn => ?_⟩
    have hle : len ≤ m := by rw [hm]; split <;> omega
    rw [cells39] at hel
    have hone : ∀ i, i < len → ∃ e : Eg, ∀ j, j < 3 → W.cell? ((a.add (i * 3)).add j) = [V e.id, V e.a, V e.b][j]? := by
      intro i hi
      obtain ⟨cs', h1, h2⟩ := hel i (by omega)
      obtain ⟨_, h3, h4⟩ := World.cells?_some h1
      obtain ⟨e, rfl⟩ := open_eg h2 h3
      exact ⟨e, h4⟩
    have hall : ∀ k, k ≤ len → ∃ l : List Eg, l.length = k ∧ ∀ i, i < l.length → ∀ j, j < 3 → W.cell? ((a.add (i * 3)).add j) = [V (l.getD i e0).id, V (l.getD i e0).a, V (l.getD i e0).b][j]? := by
      intro k
      induction k with
      | zero => exact fun _ => ⟨[], rfl, fun i h => by simp at h⟩
      | succ k ih =>
        intro hk
        obtain ⟨l, hl2, hi⟩ := ih (by omega)
        obtain ⟨x, hx⟩ := hone k (by omega)
        refine ⟨l ++ [x], by simp [hl2], fun i h => ?_⟩
        rw [getD_app]
        by_cases e : i = l.length
        · rw [if_pos e, e, hl2]; exact hx
        · rw [if_neg e]
          exact hi i (by simp at h; omega)
    obtain ⟨l, hl2, hc⟩ := hall len (Nat.le_refl _)
    refine ⟨l, hl2.symm, hl, by omega, fun h0 => ?_⟩
    have h00 := hc 0 h0 0 (by decide)
    obtain ⟨b, off, spot⟩ := a
    have hspot : spot = none := by simpa [Addr.add] using World.cell?_spot h00
    subst hspot
    refine ⟨b, off, rfl, ?_, fun i hi => ?_⟩
    · have := World.block_lt_of_cell? W _ h00
      rw [addr_add, addr_add] at this
      exact this
    · have h1 := hc i hi 0 (by decide)
      have h2 := hc i hi 1 (by decide)
      have h3 := hc i hi 2 (by decide)
      rw [addr_add, addr_add] at h1 h2 h3
      exact ⟨h1, h2, h3⟩
set_option maxRecDepth 100000 in
theorem open_graph {r : Reach} {b0 : Nat} {v : Value} {d : DataW H} {p : List MemPlace} (hv : Value.okWide Try.prog W r b0 25 v) (h : DataW.Trod enc Try.prog W base sp hd 25 v d p) :
    ∃ A n c B m e, v = .agg #[.slice A n c, .slice B m e] ∧ (n ≤ 1000000 → m ≤ 1000000 → ∃ g : Gr, n = g.vs.length ∧ m = g.es.length ∧ RG W v g) := by
  obtain ⟨v0, v1, y0, y1, n, rfl, _, _, h0, h1⟩ := open_agg2 Try.underlying25 (by kernel_rfl) (by kernel_rfl) hv h
  obtain ⟨A, n, c, rfl, hr⟩ := open_row1 h0
  obtain ⟨B, m, e, rfl, hre⟩ := open_rowe h1
  refine ⟨A, n, c, B, m, e, rfl, fun hn hm => ?_⟩
  obtain ⟨l, rfl, hc, hr⟩ := hr hn
  obtain ⟨le, rfl, hce, hre⟩ := hre hm
  exact ⟨⟨l, le⟩, rfl, rfl, A, c, B, e, rfl, hc, hce, hr, hre⟩
end
end Go.Proofs.Ytbhoingiibcboaa
