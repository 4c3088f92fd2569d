/- What plain arguments hold: numbers, an edge (the first parts of I7, which stand alone). -/
import Derived.Test.YtfeoocgmbikocaaGreatA1
import Derived.Test.YtfeoocgmbikocaaGreatRows
import Derived.ProofKit
import Derived.OpenShut
import Derived.Carry
import Derived.SizedLaws
import Derived.Lib.SmallJoins
import Derived.Deep.Slices
import Derived.Deep.Fields
namespace Go.Proofs.YtfeoocgmbikocaaGreat
open Go.ChangeShapes Go.WideShapes Go.ChangeAt Go.RowKit Go.Deep Go.Joins

theorem own : ownKnob Tryz.prog.godebug = none := by kernel_rfl
theorem laidOut : laidOutB Tryz.prog = true := by kernel_rfl
theorem bounds_u32 {n : Int} (h : (Lit.int .u32 n).wf = true) : 0 ≤ n ∧ n ≤ 4294967295 := by
  simp [Lit.wf, IntKind.min, IntKind.max, IntKind.signed, IntKind.bits] at h
  omega
theorem to_u32 {n : Int} (h : 0 ≤ n ∧ n ≤ 4294967295) : ∃ b : UInt32, Value.int .u32 n = V b ∧ n = (b.toNat : Int) := ⟨UInt32.ofNat n.toNat, by
  have : (UInt32.ofNat n.toNat).toNat = n.toNat := by show n.toNat % 4294967296 = _; omega
  rw [V_def, this]
  constructor
  · congr 1; omega
  · omega⟩
theorem cells31 : Tryz.prog.cellsOf 55 = 1 := by kernel_rfl
theorem cells39 : Tryz.prog.cellsOf 60 = 3 := by kernel_rfl
section
variable {H : Type} {enc : TypeId × Value → H} {W : World} {base : Nat} {sp : Nat → Bool} {hd : Bool}
theorem open_w {fuel : Nat} {c0 : Value} {y : Option (DataW H × List MemPlace)} {t : TypeId} (ht : t = 55) (h : DataW.trod enc Tryz.prog W base sp hd fuel t [c0] = y) (hy : y.isSome = true) : ∃ b : UInt32, c0 = V b := by
  subst ht
  obtain ⟨x, rfl⟩ := Option.isSome_iff_exists.1 hy
  obtain ⟨n0, e0, _, w0⟩ := DataW.trod_int Tryz.underlying55 h
  obtain ⟨b, hb, _⟩ := to_u32 (bounds_u32 w0)
  exact ⟨b, by rw [← hb]; simpa using e0⟩
set_option maxRecDepth 100000 in
theorem open_eg {fuel : Nat} {cs : List Value} {x : DataW H × List MemPlace} (h : DataW.trod enc Tryz.prog W base sp hd fuel 60 cs = some x) (hl : cs.length = 3) : ∃ x y z : UInt32, cs = [V x, V y, V z] := by
  obtain ⟨ys, n, _, _, _, hyl, hf⟩ := DataW.trod_struct Tryz.underlying60 h
  match cs, hl with
  | [c0, c1, c2], _ =>
    have k0 : DataW.trod enc Tryz.prog W base sp hd n 55 (List.take (Tryz.prog.cellsOf 55) (List.drop 0 [c0, c1, c2])) = ys[0]? := hf 0 _ rfl
    have k1 : DataW.trod enc Tryz.prog W base sp hd n 55 (List.take (Tryz.prog.cellsOf 55) (List.drop 1 [c0, c1, c2])) = ys[1]? := hf 1 _ rfl
    have k2 : DataW.trod enc Tryz.prog W base sp hd n 55 (List.take (Tryz.prog.cellsOf 55) (List.drop 2 [c0, c1, c2])) = ys[2]? := hf 2 _ rfl
    rw [cells31] at k0 k1 k2
    have hs : ys.length = 3 := hyl
    obtain ⟨b0, rfl⟩ := open_w rfl k0 (by rw [List.getElem?_eq_getElem (by omega)]; rfl)
    obtain ⟨b1, rfl⟩ := open_w rfl k1 (by rw [List.getElem?_eq_getElem (by omega)]; rfl)
    obtain ⟨b2, rfl⟩ := open_w rfl k2 (by rw [List.getElem?_eq_getElem (by omega)]; rfl)
    exact ⟨b0, b1, b2, rfl⟩
end
end Go.Proofs.YtfeoocgmbikocaaGreat
